/- The document's watcher: the nodes that are lost. -/
import Derived.Test.YtceomfefffngaaaBwT
namespace Go.Proofs.Ytceomfefffngaaa
open Go.RowKit
set_option linter.unusedVariables false
set_option maxRecDepth 1000000
set_option linter.unusedSimpArgs false
def lt2 (l : List Wt) (n : Int) : Bool := if h : fw l n < l.length then decide (l[fw l n].is = 2) else false
def dlK (l : List Wt) (k : Nat) : List Int := ((List.range k).map (fun j => ((j + 1 : Nat) : Int))).filter (lt2 l)
theorem dlK_next (l : List Wt) (k : Nat) : dlK l (k + 1) = dlK l k ++ (if lt2 l ((k + 1 : Nat) : Int) then [((k + 1 : Nat) : Int)] else []) := by
  unfold dlK
  rw [List.range_succ, List.map_append, List.filter_append]
  congr 1
  simp [List.filter_cons]
theorem dlK_len (l : List Wt) (k : Nat) : (dlK l k).length ≤ k := by
  unfold dlK
  have := List.length_filter_le (lt2 l) ((List.range k).map (fun j => ((j + 1 : Nat) : Int)))
  simpa using this
theorem dlK_sorted (l : List Wt) (k : Nat) : (dlK l k).Pairwise (fun a b => a ≤ b) ∧ (dlK l k).Nodup := by
  have h0 : ((List.range k).map (fun j => ((j + 1 : Nat) : Int))).Pairwise (fun a b => a < b) := by
    rw [List.pairwise_map]
    exact List.pairwise_lt_range.imp (fun h => by omega)
  have h1 := h0.filter (lt2 l)
  exact ⟨h1.imp (fun h => Int.le_of_lt h), h1.imp (fun h e => by omega)⟩
theorem lost_mem {l : List Wt} (h : OkW l) (n : Int) : n ∈ lostW l ↔ n ∈ dlK l 127 := by
  unfold lostW dlK
  rw [List.mem_filter, List.mem_map, List.mem_map]
  constructor
  · rintro ⟨x, hx, rfl⟩
    obtain ⟨hx, h2⟩ := List.mem_filter.1 hx
    obtain ⟨R, hR, rfl⟩ := List.getElem_of_mem hx
    have hok := h.ok _ hx
    have h1 := hok.n0
    have h3 := hok.n1
    refine ⟨⟨(l[R].nd - 1).toNat, by rw [List.mem_range]; omega, by omega⟩, ?_⟩
    unfold lt2
    have hf := fw_at h hR
    rw [dif_pos (by rw [hf]; exact hR)]
    simp only [hf]
    exact h2
  · rintro ⟨⟨j, hj, rfl⟩, h2⟩
    unfold lt2 at h2
    split at h2
    · rename_i hf
      exact ⟨_, List.mem_filter.2 ⟨List.getElem_mem hf, h2⟩, fw_nd l _ hf⟩
    · cases h2
theorem lost_nodup {l : List Wt} (h : OkW l) : (lostW l).Nodup := by
  unfold lostW
  have hp : l.Pairwise (fun a b => a.nd ≠ b.nd) := by
    have := h.nd
    unfold List.Nodup at this
    rwa [List.pairwise_map] at this
  unfold List.Nodup
  rw [List.pairwise_map]
  exact hp.filter _
theorem lost_sort {l : List Wt} (h : OkW l) : (lostW l).mergeSort (fun x y => decide (x ≤ y)) = dlK l 127 := by
  have h1 : ((lostW l).mergeSort (fun x y => decide (x ≤ y))).Pairwise (fun a b => a ≤ b) := by
    have := List.pairwise_mergeSort (le := fun x y : Int => decide (x ≤ y)) (fun a b c => by simp; omega) (fun a b => by simp; omega) (lostW l)
    exact this.imp (fun h => by simpa using h)
  refine List.Perm.eq_of_pairwise (le := fun a b => a ≤ b) (fun a b _ _ h1 h2 => by omega) h1 (dlK_sorted l 127).1 ?_
  refine (List.mergeSort_perm _ _).trans ?_
  exact (List.perm_ext_iff_of_nodup (lost_nodup h) (dlK_sorted l 127).2).2 (lost_mem h)
section
variable {w x y : World} {p g : Nat} {lv sv : Value} {L : List Wq} {l : List Wt}
set_option maxHeartbeats 4000000 in
theorem dlost_any (h : Ld w p g lv sv L l x) : Calls Try.prog 33 #[.pointer (some ⟨g, 0, none⟩)] x fun e y => ∃ nv, e = .returned nv ∧ Ir x.heap.size nv (dlK l 127) y ∧ Below x.heap.size x y := by
  obtain ⟨p0, hp0⟩ : ∃ p, x.heap.size = p := ⟨_, rfl⟩
  obtain ⟨x1, hx1⟩ : ∃ z, x.alloc (.cells #[] 3) = z := ⟨_, rfl⟩
  have bx : Below p0 x x1 := by rw [← hx1, ← hp0]; exact (Below.refl _ _).alloc (Nat.le_refl _) _
  have HB0 := hidOf2 bx
  have HN0 : Hid (Ir p0 (.slice (some ⟨p0, 0, none⟩) 0 0) [] x1) := by rw [← hx1, ← hp0]; exact own_empty_e _ _ _
  have HP0 := hidOf2 hp0
  have HH := hidOf2 h
  have hlen := h.ok.len
  obtain ⟨ao, cap, hsv⟩ := own_shape5 h.row
  have HV := hidOf2 hsv
  rw [hp0]
  clear h bx hsv
  go_enter Try.func33, Try.ntmps33
  go_upto_region 2 with (refine BigFrame.wpList_want rfl fun K hK => wp_bs0g Try.underlying62 infoI rfl (hK _ _ ?_))
  try rw [hx1]
  clear hx1
  go_wp2_with fail
  go_loopw [3, 4] (fun a s4 y => ∃ k, k ≤ 127 ∧ s4 = .int .i64 ((k + 1 : Nat) : Int) ∧ Ir p0 a (dlK l k) y ∧ Below p0 x y) (fun _ s4 _ => 128 - (intOf s4).toNat)
  case atStart => exact ⟨0, by omega, rfl, HN0.out, HB0.out⟩
  case round =>
    clear HN0 HB0
    obtain ⟨k, hk, rfl, hN, hb⟩ := hrel
    have hW := HH.out.below (by rw [HP0.out]; exact hb)
    obtain ⟨m, hm⟩ : ∃ m, k + 1 = m := ⟨_, rfl⟩
    have e1 := dlK_next l k
    rw [hm] at e1 ⊢
    have HBw := hidOf2 hb
    have HN1 := hidOf2 hN
    by_cases hkl : k < 127
    · have hd : decide ((m : Int) < 128) = true := by simp; omega
      have hd' : decide (m < 128) = true := by simp; omega
      have hP := find_any hW (m : Int)
      have hml : (dlK l k).length ≤ 1000 := by have := dlK_len l k; omega
      have hmm : m ≤ 127 := by omega
      have HM := hidOf2 (show m = k + 1 from hm.symm)
      by_cases hf : fw l m < l.length
      · rw [ixw_pos _ _ hf] at hP
        obtain ⟨q, hq⟩ : ∃ q, ao = some ⟨q, 0, none⟩ := by
          rcases hW.row.2 with ⟨hv, h0⟩ | ⟨q, cap, cur, hv, _⟩
          · omega
          · rw [HV.out] at hv
            injection hv with h1 _ _
            exact ⟨q, h1⟩
        subst hq
        have hvv := HV.out
        subst hvv
        have hR := own_getW DS hW.row hf
        have hR' : wr.rangeAt q (fw l m * 3) l[fw l m].ss := hR
        have c0 := (Wt.cells3 hR').1
        obtain ⟨cg0, cg1⟩ := hW.cell
        have hg0 : decide ((0 : Int) ≤ ((fw l m : Nat) : Int)) = true := by simp
        have hkn : ((fw l m : Nat) : Int) < (l.length : Int) := by omega
        have e2 : lt2 l (m : Int) = decide (l[fw l m].is = 2) := by unfold lt2; rw [dif_pos hf]
        rw [e2] at e1
        obtain ⟨i, hi⟩ : ∃ i, l[fw l m].is = i := ⟨_, rfl⟩
        rw [hi] at e1 c0
        by_cases h2 : i = 2
        · have E1 : Hid (dlK l m = dlK l k ++ [(m : Int)]) := by show _ = _; rw [e1]; simp [h2]
          have di : ((i : Int) == 2) = true := by simp [h2]
          clear e1 e2 hi h2 hR hR' hW hN hb hf hm
          generalize fw l m = K1 at *
          generalize l.length = NN at *
          obtain ⟨X2, hX2⟩ : ∃ X, wr.alloc (.cells #[.int .i64 (m : Nat)] 3) = X := ⟨_, rfl⟩
          have BX2 : Below wr.heap.size wr X2 := by rw [← hX2]; exact (Below.refl _ _).alloc (Nat.le_refl _) _
          have HX2 : Hid (Wide 1 DI.dec X2 (.slice (some ⟨wr.heap.size, 0, none⟩) 1 1) [(m : Int)]) := by rw [← hX2]; exact wide_i wr m
          have HN2 := hidOf2 (own_belowE HN1.out BX2)
          have hszw : p0 ≤ wr.heap.size := by have := HBw.out.size; have := HP0.out; omega
          have HB2 := hidOf2 (HBw.out.trans (BX2.mono hszw))
          have hp2 : p0 ≤ X2.heap.size := Nat.le_trans hszw BX2.size
          obtain ⟨q1, hq1⟩ : ∃ q1, wr.heap.size = q1 := ⟨_, rfl⟩
          rw [hq1] at HX2
          clear BX2 hszw
          go_wp2_with (first | (go_at_call 31; refine hP.mono ?_; rintro e W ⟨rfl, hW⟩; rw [hW]) | (at_builtin; refine wpList_app DI 62 3 _ 8 Try.underlying62 infoI rfl rfl _ _ rfl p0 u3 (dlK l k) rfl (by exact HN2.out) _ [(m : Int)] rfl (by exact HX2.out) (by simp only [List.length_cons, List.length_nil, maxLen]; omega) (by simp only [List.length_cons, List.length_nil]; omega) hp2 ?_; intro v' w' a1 a2; have HN3 := hidOf2 a1; have HB3 := hidOf2 (HB2.out.grown a2 hp2 (fun j hj => own_base HN2.out hj)); clear a1 a2))
          go_roundw
          case rel => exact ⟨m, by omega, by go_num, by rw [E1.out]; exact HN3.out, HB3.out⟩
          case measure => have := HM.out; simp [intOf]; omega
        · have E1 : Hid (dlK l m = dlK l k) := by show _ = _; rw [e1]; simp [h2]
          have di : ((i : Int) == 2) = false := by simp; omega
          clear e1 e2 hi h2 hR hR' hW hN hb hf hm
          generalize fw l m = K1 at *
          generalize l.length = NN at *
          go_wp2_with (go_at_call 31; refine hP.mono ?_; rintro e W ⟨rfl, hW⟩; rw [hW])
          go_roundw
          case rel => exact ⟨m, by omega, by go_num, by rw [E1.out]; exact HN1.out, HBw.out⟩
          case measure => have := HM.out; simp [intOf]; omega
      · rw [ixw_neg _ _ hf] at hP
        have e2 : lt2 l (m : Int) = false := by unfold lt2; rw [dif_neg hf]
        have E1 : Hid (dlK l m = dlK l k) := by show _ = _; rw [e1, e2]; simp
        clear e1 e2 hW hN hb hf hm
        go_wp2_with (go_at_call 31; refine hP.mono ?_; rintro e W ⟨rfl, hW⟩; rw [hW])
        go_roundw
        case rel => exact ⟨m, by omega, by go_num, by rw [E1.out]; exact HN1.out, HBw.out⟩
        case measure => have := HM.out; simp [intOf]; omega
    · obtain rfl : k = 127 := by omega
      subst hm
      clear e1 hW hN hb
      go_wp2_with fail
      go_ret
      exact ⟨_, rfl, HN1.out, HBw.out⟩
theorem Ld.lost (h : Ld w p g lv sv L l x) : Calls Try.prog 33 #[.pointer (some ⟨g, 0, none⟩)] x fun e y =>
    ∃ ao cap, e = .returned (.slice ao (lostW l).length cap) ∧ Ir x.heap.size (.slice ao (lostW l).length cap) ((lostW l).mergeSort fun x y => decide (x ≤ y)) y ∧ Below x.heap.size x y := by
  refine (dlost_any h).mono ?_
  rintro e y ⟨nv, rfl, N, B⟩
  rw [← lost_sort h.ok] at N
  obtain ⟨ao, cap, rfl⟩ := own_shape5 N
  rw [List.length_mergeSort] at N ⊢
  exact ⟨ao, cap, rfl, N, B⟩
end
end Go.Proofs.Ytceomfefffngaaa
