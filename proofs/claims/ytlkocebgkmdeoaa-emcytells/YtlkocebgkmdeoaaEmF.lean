/- slices.Delete at one place of a row. -/
import Derived.Test.YtlkocebgkmdeoaaCeX
import Derived.Test.YtlkocebgkmdeoaaEmA
import Derived.Test.YtlkocebgkmdeoaaProg
import Derived.WalkSmall
import Derived.Deep.QuietTactic
import Derived.OrdersHeld
import Derived.Deep.Upon
namespace Go.Proofs.Ytlkocebgkmdeoaa
open Go.RowKit
set_option linter.unusedVariables false
set_option maxRecDepth 1000000
set_option linter.unusedSimpArgs false
def zF : List Value := [.int .u8 0, .int .u8 0, .int .u8 0, .int .u8 0, .int .u8 0, .int .u8 0, .int .u8 0, .int .u8 0]
set_option maxHeartbeats 2000000 in
theorem delF_any {w : World} {B i : Nat} {v : Value} {cs : List Tr} (h : w.ownsRow B 42 8 v cs.length (flatW DF cs)) (hi : i < cs.length) (hbig : cs.length ≤ 2305843009213693951) :
    Calls Try.prog 32 #[v, .int .i64 i, .int .i64 ((i : Int) + 1)] w fun e w' => ∃ v', e = .returned v' ∧ v'.ownBlock = v.ownBlock ∧ w'.ownsRow B 42 8 v' (cs.eraseIdx i).length (flatW DF (cs.eraseIdx i)) ∧ w.grownBy w' v.ownBlock := by
  obtain ⟨g, cap, cur, rfl, hB, hcur, h1, h2, h3, h4⟩ := own_row h (by omega)
  clear h
  obtain ⟨v4, hv4⟩ := cut_mid Try.underlying31 info8F g cs.length cap i hi h1
  have ct1 := cut_to Try.underlying31 info8F g cs.length cap i (by omega)
  have ct2 := cut_from Try.underlying31 info8F g cs.length cap (i + 1) (by omega) h1
  have ct3 := cut_one Try.underlying31 info8F g (cs.length - 1) (cs.length - 1) cap (by omega)
  obtain ⟨oo, hoo⟩ : ∃ oo, (if cap = i + 1 then 0 else (i + 1) * 8) = oo := ⟨_, rfl⟩
  rw [hoo] at ct2
  have hoo2 : i + 1 < cs.length → oo = (i + 1) * 8 := fun h => by rw [← hoo, if_neg (by omega)]
  have HAP : Hid (∀ W : World, W.heap[g]? = some (.cells cur 42 (0, 0)) → ∀ ty, (Builtin.append_ #[31, 31] ty #[.slice (some ⟨g, 0, none⟩) i cap, .slice (some ⟨g, oo, none⟩) (cs.length - (i + 1)) (cap - (i + 1))]).run Try.prog W = .ok (.slice (some ⟨g, 0, none⟩) (cs.length - 1) cap) (W.setRow g (delR DF cur cs i))) := fun W hW ty =>
    del_app DF Try.underlying31 info8F hW h1 h3 h4 hi hoo2 ty _ _ rfl
  have HX : Hid (∀ W : World, W.heap[g]? = some (.cells cur 42 (0, 0)) → w.grownBy W (some g) → ((W.setRow g (delR DF cur cs i)).setCells g ((cs.length - 1) * 8) zF).ownsRow B 42 8 (.slice (some ⟨g, 0, none⟩) (cs.length - 1) cap) (cs.eraseIdx i).length (flatW DF (cs.eraseIdx i)) ∧ w.grownBy ((W.setRow g (delR DF cur cs i)).setCells g ((cs.length - 1) * 8) zF) (some g)) := fun W hW hg =>
    ⟨del_row DF hB hW h1 h2 h3 h4 hi zF, grown_setCells (grown_setRow hg _) _ _⟩
  have HT : Hid (∀ W : World, W.heap[g]? = some (.cells cur 42 (0, 0)) → (W.setRow g (delR DF cur cs i)).there g ((cs.length - 1) * 8) 8) := fun W hW =>
    there_of_heap (setRow_heap W g cur (delR DF cur cs i) 42 _ hW) (by rw [delR_size DF hi h1 h3]; show (cs.length - 1) * 8 + 8 ≤ cap * 8; omega)
  generalize flatW DF (cs.eraseIdx i) = FL at *
  generalize (cs.eraseIdx i).length = LE at *
  generalize delR DF cur cs i = NR at *
  have hm1 : ((cs.length - 1 : Nat) : Int) + 1 = (cs.length : Int) := by omega
  rw [hm1] at ct3
  have hne : ((i : Int) == (i : Int) + 1) = false := by rw [beq_eq_false_iff_ne]; omega
  have hpl : ((i + 1 : Nat) : Int) = (i : Int) + 1 := by omega
  rw [hpl] at ct2
  generalize cs.length - (i + 1) = r at *
  generalize cs.length - 1 = k at *
  generalize cs.length = n at *
  obtain ⟨i1, hi1⟩ : ∃ j : Int, (i : Int) + 1 = j := ⟨_, rfl⟩
  rw [hi1] at hv4 ct2 hne ⊢
  clear hpl hi1 h2 h3 h4 hoo hoo2 hm1 hB
  go_enter Try.func32, Try.ntmps32
  go_wp2_with fail
  refine wp_region_any (by kernel_rfl) ?_
  obtain ⟨w2, hw2⟩ : ∃ x : World, { w with drawn := w.drawn + 1 } = x := ⟨_, rfl⟩
  rw [hw2]
  have c2 : w2.heap[g]? = some (.cells cur 42 (0, 0)) := by rw [← hw2]; exact hcur
  have g2 : w.grownBy w2 (some g) := by rw [← hw2]; exact grown_drawn2 w _ _
  have HX2 : Hid _ := HX.out w2 c2 g2
  have hT2 := HT.out w2 c2
  have hap2 := HAP.out w2 c2
  have hcl := clear_one Try.underlying31 info8F zF (by kernel_rfl) (by intro v hv; simp [zF] at hv; first | (subst hv; rfl) | (rcases hv with rfl | rfl <;> rfl)) (w2.setRow g NR) g (k * 8) (cap - k) hT2
  generalize hw3 : w2.setRow g NR = w3 at *
  clear HAP HX HT c2 g2 hw2 hT2
  refine wpAny_take (i := 0) (v := (.slice (some ⟨g, 0, none⟩) n cap)) rfl (by kernel_rfl) (by kernel_rfl) (by kernel_rfl) (fun _ _ _ h => h) (.inl ⟨rfl, fun _ => rfl⟩) ?_
  simp only [List.getElem_toArray, List.getElem_cons_succ, List.getElem_cons_zero, Act.put, List.setIfInBounds_toArray, List.set_cons_succ, List.set_cons_zero]
  refine wpAny_take (i := 1) (v := (.int .i64 i)) rfl (by kernel_rfl) (by kernel_rfl) (by kernel_rfl) (fun _ _ _ h => h) (.inl ⟨rfl, fun _ => rfl⟩) ?_
  simp only [List.getElem_toArray, List.getElem_cons_succ, List.getElem_cons_zero, Act.put, List.setIfInBounds_toArray, List.set_cons_succ, List.set_cons_zero]
  refine wpAny_take (i := 2) (v := (.slice (some ⟨g, 0, none⟩) i cap)) rfl (by kernel_rfl) (by kernel_rfl) (by kernel_rfl) (fun _ _ _ h => h) (.inl ⟨rfl, fun _ => by simp [execOp, go_sem, Act.eval, ct1]⟩) ?_
  simp only [List.getElem_toArray, List.getElem_cons_succ, List.getElem_cons_zero, Act.put, List.setIfInBounds_toArray, List.set_cons_succ, List.set_cons_zero]
  refine wpAny_take (i := 3) (v := (.slice (some ⟨g, 0, none⟩) n cap)) rfl (by kernel_rfl) (by kernel_rfl) (by kernel_rfl) (fun _ _ _ h => h) (.inl ⟨rfl, fun _ => rfl⟩) ?_
  simp only [List.getElem_toArray, List.getElem_cons_succ, List.getElem_cons_zero, Act.put, List.setIfInBounds_toArray, List.set_cons_succ, List.set_cons_zero]
  refine wpAny_take (i := 4) (v := (.int .i64 i1)) rfl (by kernel_rfl) (by kernel_rfl) (by kernel_rfl) (fun _ _ _ h => h) (.inl ⟨rfl, fun _ => rfl⟩) ?_
  simp only [List.getElem_toArray, List.getElem_cons_succ, List.getElem_cons_zero, Act.put, List.setIfInBounds_toArray, List.set_cons_succ, List.set_cons_zero]
  refine wpAny_take (i := 5) (v := (.slice (some ⟨g, oo, none⟩) r (cap - (i + 1)))) rfl (by kernel_rfl) (by kernel_rfl) (by kernel_rfl) (fun _ _ _ h => h) (.inl ⟨rfl, fun _ => by simp [execOp, go_sem, Act.eval, ct2]⟩) ?_
  simp only [List.getElem_toArray, List.getElem_cons_succ, List.getElem_cons_zero, Act.put, List.setIfInBounds_toArray, List.set_cons_succ, List.set_cons_zero]
  refine wpAny_all (rs := [6]) (by kernel_rfl) (by simp) ?_
  intro k' hk
  simp only [List.mem_cons, List.mem_nil_iff, or_false] at hk
  subst hk
  refine wpOp_run rfl rfl (wp_app_run _ _ 31 rfl _ _ _ rfl rfl hap2 ?_)
  simp only [List.getElem_toArray, List.getElem_cons_succ, List.getElem_cons_zero, Act.put, List.setIfInBounds_toArray, List.set_cons_succ, List.set_cons_zero]
  refine wpAny_take (i := 7) (v := (.slice (some ⟨g, 0, none⟩) k cap)) rfl (by kernel_rfl) (by kernel_rfl) (by kernel_rfl) (fun _ _ _ h => h) (.inl ⟨rfl, fun _ => rfl⟩) ?_
  simp only [List.getElem_toArray, List.getElem_cons_succ, List.getElem_cons_zero, Act.put, List.setIfInBounds_toArray, List.set_cons_succ, List.set_cons_zero]
  refine wpAny_done (by kernel_rfl) ?_ _
  go_wp2
  go_ret
  exact ⟨_, rfl, rfl, HX2.out.1, HX2.out.2⟩
end Go.Proofs.Ytlkocebgkmdeoaa
