/- The law OdLimits returns true whatever comes in. -/
import Derived.Test.YtdcogpadioeclaaOlb
namespace Go.Proofs.Ytdcogpadioeclaa
open Go.RowKit Go.Proofs.Ty Go.Sort Go.Lib
set_option linter.unusedVariables false
set_option maxRecDepth 1000000
set_option linter.unusedSimpArgs false
theorem enterW : ∀ args x, (callFunc 14 args).run Try.prog x = .ok (.enter 14 args) x := fun _ _ => by rfl
theorem enterG : ∀ args x, (callFunc 15 args).run Try.prog x = .ok (.enter 15 args) x := fun _ _ => by rfl
theorem rng_of_below {w x : World} {b o : Nat} {cs : List Value} (h : w.rangeAt b o cs) (hl : b < w.heap.size) (hb : Below w.heap.size w x) : x.rangeAt b o cs := rng_below h hb hl
theorem rng_df {w : World} {b o : Nat} {e : En} (h : w.rangeAt b o (enC e)) : w.rangeAt b (o + 11) (vlC e.df) := by
  intro j u hj
  have : (enC e)[11 + j]? = some u := by
    match j, hj with
    | 0, hj => exact hj
    | 1, hj => exact hj
    | 2, hj => exact hj
    | j + 3, hj => simp [vlC] at hj
  have := h (11 + j) u this
  rw [← Nat.add_assoc] at this
  exact this
set_option maxHeartbeats 16000000 in
theorem olim_walk (v0 v1 : Value) (l : List En) (acts : List A8) (w : World) (h0 : Wide 14 enC w v0 l) (h1 : Wide 8 acC w v1 acts) (hn0 : l.length ≤ 1172812402927) (hn1 : acts.length ≤ 1759218604390) (hb : ∀ a ∈ acts, Bytes w a.bv a.bl ∧ a.bl.length ≤ 140737488351232) :
    Calls Try.prog 4 #[v0, v1] w fun e w' => e = .returned (.bool true) ∧ Below w.heap.size w w' := by
  have HW0 := hidOf2 h0
  obtain ⟨ao0, cp0, rfl⟩ := h0.shape
  obtain ⟨ao1, cp1, rfl, _, hc1⟩ := h1
  have HCA : Hid (∀ (wr : World), Below w.heap.size w wr → ∀ k (hk : k < acts.length), ∃ b off, ao1 = some ⟨b, off, none⟩ ∧ b < w.heap.size ∧ wr.rangeAt b (off + k * 8) (acC acts[k])) := fun wr hb k hk => Wide.at hc1 hb k hk
  have HBA := hidOf2 hb
  have bA : Below w.heap.size w (w.alloc (.cells #[] 47)) := (Below.refl _ _).alloc (Nat.le_refl _) _
  have hWa := h0.same bA.size (fun b _ hl => bA.block b hl)
  have hown := own0E w
  have hL8 := lives8_any
  clear hc1 hb h0
  go_enter Try.func4, Try.ntmps4
  go_wp2_with (first | (refine bs0E rfl rfl ?_) | (refine apE rfl _ _ rfl w.heap.size (.slice (some ⟨w.heap.size, 0, none⟩) 0 0) [] rfl hown _ l rfl hWa (by simpa using hn0) bA.size ?_; intro v2 w1 P1 G1; rw [List.nil_append] at P1))
  have B1 : Below w.heap.size w w1 := bA.grown G1 bA.size (own_lt hown)
  have hN := oNew_any v2 l w1 (wide_of_own DE P1) (by omega)
  clear P1 G1 hown hWa bA
  refine hN.mono ?_
  rintro e w2 ⟨hbad, hgood⟩
  have HG := hidOf2 hgood
  have HB2 := hidOf2 hbad
  clear hN hgood hbad
  by_cases hc : chkL l = 0
  · obtain ⟨D, R, its0, rfl, N2⟩ := HG.out hc
    clear HG HB2
    have HPm := hidOf2 N2.perm
    have HCan : Hid (∀ e ∈ l, e.can = 0) := chkG_all (chkL_ok hc).2.2
    have HGd0 : Hid (∀ i ∈ its0, Gd i) := fun i hi => by
      obtain ⟨e, he, h2⟩ := List.mem_map.1 (N2.perm.mem_iff.1 (List.mem_map.2 ⟨i, hi, rfl⟩))
      have h3 := gd_new (HCan.out e he) i.b
      have h4 := N2.vals i hi
      obtain ⟨ib, ie, iv⟩ := i
      simp only at h2 h4 h3
      subst h4
      rw [← h2]
      exact h3
    have Hbs : Hid (∀ b ∈ its0.map Im.b, w.heap.size ≤ b) := fun b hb2 => by
      obtain ⟨i, hi, rfl⟩ := List.mem_map.1 hb2
      exact Nat.le_trans B1.size (N2.base i hi)
    have HD0 := hidOf2 N2.dct
    have HB0 := hidOf2 (B1.trans (N2.below.mono B1.size))
    have HAl0 : Hid (Al (its0.map Im.e) (its0.map Im.b) its0) := ⟨rfl, rfl⟩
    generalize its0.map Im.e = es at *
    generalize its0.map Im.b = bs at *
    clear N2 HCan B1
    go_wp2
    go_loopw [7] (fun i x => ∃ (k : Nat) (its : List Im), k ≤ acts.length ∧ i = .int .i64 k ∧ Hid (Dct D R its x) ∧ Hid (Al es bs its) ∧ Hid (∀ i ∈ its, Gd i) ∧ Hid (Below w.heap.size w x)) (fun i _ => acts.length - (intOf i).toNat)
    case atStart => exact ⟨0, its0, Nat.zero_le _, rfl, HD0, HAl0, HGd0, HB0⟩
    case round =>
      clear HD0 HAl0 HGd0 HB0
      obtain ⟨k, its, hk, rfl, HDc, HAl, HGd, HB⟩ := hrel
      by_cases hkl : k < acts.length
      · obtain ⟨ab, ao, rfl, hab, hR⟩ := HCA.out wr HB.out k hkl
        have HBy := hidOf2 (HBA.out acts[k] (List.getElem_mem hkl))
        have HSS : Hid (∀ x, Below w.heap.size w x → x.cell? ⟨ab, ao + k * 8 + 1, none⟩ = some (.int .u16 acts[k].ix) ∧ x.cell? ⟨ab, ao + k * 8 + 2, none⟩ = some (.int .u8 acts[k].sb) ∧ x.cell? ⟨ab, ao + k * 8 + 3, none⟩ = some acts[k].bv) := fun x hb => by
          obtain ⟨b', off', he, _, hR'⟩ := HCA.out x hb k hkl
          injection he with he
          injection he with h1 h2
          subst h1 h2
          exact ⟨hR' 1 _ rfl, hR' 2 _ rfl, hR' 3 _ rfl⟩
        generalize acts[k] = A at *
        obtain ⟨aob, cpb, hbv⟩ := bytes_shape HBy.out.1
        rw [hbv] at HSS
        rw [hbv] at HBy
        have S0 := HSS.out wr.drew (bdr HB.out 1)
        clear hR
        go_upto_region 7 with fail
        refine wp_region_held (S := fun x => x.cell? ⟨ab, ao + k * 8 + 1, none⟩ = some (.int .u16 A.ix) ∧ x.cell? ⟨ab, ao + k * 8 + 2, none⟩ = some (.int .u8 A.sb) ∧ x.cell? ⟨ab, ao + k * 8 + 3, none⟩ = some (.slice aob A.bl.length cpb)) (by kernel_rfl) ?_
        change wpAnyH _ _ _ _ _ _ _ _ wr.drew
        refine wpAnyH_take (i := 0) (v := (.pointer (some ⟨D, 0, none⟩))) rfl (by kernel_rfl) (by kernel_rfl) (by kernel_rfl) (fun _ _ _ h => h) (.inl ⟨rfl, fun _ hS => rfl⟩) S0 ?_
        simp only [List.getElem_toArray, List.getElem_cons_succ, List.getElem_cons_zero, Act.put, List.setIfInBounds_toArray, List.set_cons_succ, List.set_cons_zero]
        refine wpAnyH_take (i := 1) (v := (.slice (some ⟨ab, ao, none⟩) acts.length cp1)) rfl (by kernel_rfl) (by kernel_rfl) (by kernel_rfl) (fun _ _ _ h => h) (.inl ⟨rfl, fun _ hS => rfl⟩) S0 ?_
        simp only [List.getElem_toArray, List.getElem_cons_succ, List.getElem_cons_zero, Act.put, List.setIfInBounds_toArray, List.set_cons_succ, List.set_cons_zero]
        refine wpAnyH_take (i := 2) (v := (.int .i64 (k : Int))) rfl (by kernel_rfl) (by kernel_rfl) (by kernel_rfl) (fun _ _ _ h => h) (.inl ⟨rfl, fun _ hS => rfl⟩) S0 ?_
        simp only [List.getElem_toArray, List.getElem_cons_succ, List.getElem_cons_zero, Act.put, List.setIfInBounds_toArray, List.set_cons_succ, List.set_cons_zero]
        refine wpAnyH_take (i := 3) (v := (.pointer (some ⟨ab, ao + k * 8, none⟩))) rfl (by kernel_rfl) (by kernel_rfl) (by kernel_rfl) (fun _ _ _ h => h) (.inl ⟨rfl, fun _ hS => exec_idxA rfl rfl rfl hkl _⟩) S0 ?_
        simp only [List.getElem_toArray, List.getElem_cons_succ, List.getElem_cons_zero, Act.put, List.setIfInBounds_toArray, List.set_cons_succ, List.set_cons_zero]
        refine wpAnyH_take (i := 4) (v := (.pointer (some ⟨ab, ao + k * 8 + 1, none⟩))) rfl (by kernel_rfl) (by kernel_rfl) (by kernel_rfl) (fun _ _ _ h => h) (.inl ⟨rfl, fun _ hS => by simp [execOp, go_sem, Act.eval]⟩) S0 ?_
        simp only [List.getElem_toArray, List.getElem_cons_succ, List.getElem_cons_zero, Act.put, List.setIfInBounds_toArray, List.set_cons_succ, List.set_cons_zero]
        refine wpAnyH_take (i := 5) (v := (.int .u16 A.ix)) rfl (by kernel_rfl) (by kernel_rfl) (by kernel_rfl) (fun _ _ _ h => h) (.inl ⟨rfl, fun _ hS => exec_load rfl rfl (load_u16 _ _ _ _ hS.1)⟩) S0 ?_
        simp only [List.getElem_toArray, List.getElem_cons_succ, List.getElem_cons_zero, Act.put, List.setIfInBounds_toArray, List.set_cons_succ, List.set_cons_zero]
        refine wpAnyH_take (i := 6) (v := (.slice (some ⟨ab, ao, none⟩) acts.length cp1)) rfl (by kernel_rfl) (by kernel_rfl) (by kernel_rfl) (fun _ _ _ h => h) (.inl ⟨rfl, fun _ hS => rfl⟩) S0 ?_
        simp only [List.getElem_toArray, List.getElem_cons_succ, List.getElem_cons_zero, Act.put, List.setIfInBounds_toArray, List.set_cons_succ, List.set_cons_zero]
        refine wpAnyH_take (i := 7) (v := (.int .i64 (k : Int))) rfl (by kernel_rfl) (by kernel_rfl) (by kernel_rfl) (fun _ _ _ h => h) (.inl ⟨rfl, fun _ hS => rfl⟩) S0 ?_
        simp only [List.getElem_toArray, List.getElem_cons_succ, List.getElem_cons_zero, Act.put, List.setIfInBounds_toArray, List.set_cons_succ, List.set_cons_zero]
        refine wpAnyH_take (i := 8) (v := (.pointer (some ⟨ab, ao + k * 8, none⟩))) rfl (by kernel_rfl) (by kernel_rfl) (by kernel_rfl) (fun _ _ _ h => h) (.inl ⟨rfl, fun _ hS => exec_idxA rfl rfl rfl hkl _⟩) S0 ?_
        simp only [List.getElem_toArray, List.getElem_cons_succ, List.getElem_cons_zero, Act.put, List.setIfInBounds_toArray, List.set_cons_succ, List.set_cons_zero]
        refine wpAnyH_take (i := 9) (v := (.pointer (some ⟨ab, ao + k * 8 + 2, none⟩))) rfl (by kernel_rfl) (by kernel_rfl) (by kernel_rfl) (fun _ _ _ h => h) (.inl ⟨rfl, fun _ hS => by simp [execOp, go_sem, Act.eval]⟩) S0 ?_
        simp only [List.getElem_toArray, List.getElem_cons_succ, List.getElem_cons_zero, Act.put, List.setIfInBounds_toArray, List.set_cons_succ, List.set_cons_zero]
        refine wpAnyH_take (i := 10) (v := (.int .u8 A.sb)) rfl (by kernel_rfl) (by kernel_rfl) (by kernel_rfl) (fun _ _ _ h => h) (.inl ⟨rfl, fun _ hS => exec_load rfl rfl (load_u8 _ _ _ _ hS.2.1)⟩) S0 ?_
        simp only [List.getElem_toArray, List.getElem_cons_succ, List.getElem_cons_zero, Act.put, List.setIfInBounds_toArray, List.set_cons_succ, List.set_cons_zero]
        refine wpAnyH_take (i := 12) (v := (.slice (some ⟨ab, ao, none⟩) acts.length cp1)) rfl (by kernel_rfl) (by kernel_rfl) (by kernel_rfl) (fun _ _ _ h => h) (.inl ⟨rfl, fun _ hS => rfl⟩) S0 ?_
        simp only [List.getElem_toArray, List.getElem_cons_succ, List.getElem_cons_zero, Act.put, List.setIfInBounds_toArray, List.set_cons_succ, List.set_cons_zero]
        refine wpAnyH_take (i := 13) (v := (.int .i64 (k : Int))) rfl (by kernel_rfl) (by kernel_rfl) (by kernel_rfl) (fun _ _ _ h => h) (.inl ⟨rfl, fun _ hS => rfl⟩) S0 ?_
        simp only [List.getElem_toArray, List.getElem_cons_succ, List.getElem_cons_zero, Act.put, List.setIfInBounds_toArray, List.set_cons_succ, List.set_cons_zero]
        refine wpAnyH_take (i := 14) (v := (.pointer (some ⟨ab, ao + k * 8, none⟩))) rfl (by kernel_rfl) (by kernel_rfl) (by kernel_rfl) (fun _ _ _ h => h) (.inl ⟨rfl, fun _ hS => exec_idxA rfl rfl rfl hkl _⟩) S0 ?_
        simp only [List.getElem_toArray, List.getElem_cons_succ, List.getElem_cons_zero, Act.put, List.setIfInBounds_toArray, List.set_cons_succ, List.set_cons_zero]
        refine wpAnyH_take (i := 15) (v := (.pointer (some ⟨ab, ao + k * 8 + 3, none⟩))) rfl (by kernel_rfl) (by kernel_rfl) (by kernel_rfl) (fun _ _ _ h => h) (.inl ⟨rfl, fun _ hS => by simp [execOp, go_sem, Act.eval]⟩) S0 ?_
        simp only [List.getElem_toArray, List.getElem_cons_succ, List.getElem_cons_zero, Act.put, List.setIfInBounds_toArray, List.set_cons_succ, List.set_cons_zero]
        refine wpAnyH_take (i := 16) (v := (.slice aob A.bl.length cpb)) rfl (by kernel_rfl) (by kernel_rfl) (by kernel_rfl) (fun _ _ _ h => h) (.inl ⟨rfl, fun _ hS => exec_load rfl rfl (load_bytes _ _ _ _ _ _ hS.2.2)⟩) S0 ?_
        simp only [List.getElem_toArray, List.getElem_cons_succ, List.getElem_cons_zero, Act.put, List.setIfInBounds_toArray, List.set_cons_succ, List.set_cons_zero]
        refine wpAnyH_all (rs := [11]) (by kernel_rfl) (by simp) ?_
        intro k hk
        simp only [List.mem_cons, List.mem_nil_iff, or_false] at hk
        subst hk
        refine wpOp_run rfl rfl (wp_bs0g Try.underlying30 info5 rfl ?_)
        have b1 : Below wr.heap.size wr (wr.drew.alloc (.cells #[] 5)) := (bdr (Below.refl _ _) 1).alloc (Nat.le_refl _) _
        have B1 := HB.out.trans (b1.mono HB.out.size)
        have s1 := HSS.out _ B1
        refine ⟨s1, ?_⟩
        simp only [List.getElem_toArray, List.getElem_cons_succ, List.getElem_cons_zero, Act.put, List.setIfInBounds_toArray, List.set_cons_succ, List.set_cons_zero]
        refine wpAnyH_all (rs := [17]) (by kernel_rfl) (by simp) ?_
        intro k hk
        simp only [List.mem_cons, List.mem_nil_iff, or_false] at hk
        subst hk
        refine wpOp_run rfl rfl (wp_append_bytes _ _ rfl wr.drew.heap.size (.slice (some ⟨wr.drew.heap.size, 0, none⟩) 0 0) [] rfl (own_empty wr.drew) _ A.bl rfl (HBy.out.1.below B1) (by have := HBy.out.2; simp; omega) (by rw [size_alloc]; omega) ?_)
        intro v7 w7 P7 G7 _
        have b7 : Below wr.heap.size wr w7 := b1.grown G7 (by rw [size_alloc]; exact Nat.le_succ _) (fun j hj => by simp [Value.ownBlock] at hj; subst hj; exact Nat.le_refl _)
        have B7 := HB.out.trans (b7.mono HB.out.size)
        have s7 := HSS.out _ B7
        rw [List.nil_append] at P7
        have hby7 := bytes_of_own P7
        refine ⟨s7, ?_⟩
        simp only [List.getElem_toArray, List.getElem_cons_succ, List.getElem_cons_zero, Act.put, List.setIfInBounds_toArray, List.set_cons_succ, List.set_cons_zero]
        refine wpAnyH_all (rs := [18]) (by kernel_rfl) (by simp) ?_
        intro k hk
        simp only [List.mem_cons, List.mem_nil_iff, or_false] at hk
        subst hk
        refine wpOp_run rfl rfl (wp_call_fn 14 #[.pointer (some ⟨D, 0, none⟩), .int .u16 A.ix, .int .u8 A.sb, v7] (by simp [execOp, go_sem, Act.eval, resolve, invoke, enterW]) ?_)
        refine (Write_any (HDc.out.below b7) A.ix A.sb A.hix A.hsb v7 A.bl hby7).mono ?_
        rintro e w8 ⟨rfl, D8, K8⟩
        have B8 := K8.below B7 B7.size (fun b hb => Hbs.out b (by rw [HAl.out.b] at hb; exact hb))
        have s8 := HSS.out _ B8
        refine ⟨s8, ?_⟩
        simp only [List.getElem_toArray, List.getElem_cons_succ, List.getElem_cons_zero, Act.put, List.setIfInBounds_toArray, List.set_cons_succ, List.set_cons_zero]
        refine wpAnyH_done (by kernel_rfl) ?_ _
        have N1 := hidOf2 D8
        have N2 := hidOf2 (HAl.out.wrt A.ix A.sb A.bl)
        have N3 := hidOf2 (gd_wrt HDc.out.apart HGd.out A.ix A.sb A.bl)
        have N4 := hidOf2 B8
        clear s1 s7 s8 P7 G7 hby7 b1 b7 B1 B7 D8 K8 B8 S0 HSS HDc HAl HGd HB HBy
        go_wp2
        go_roundw
        case rel => exact ⟨k + 1, _, by omega, by go_num, N1, N2, N3, N4⟩
        case measure => simp [intOf]; omega
      · have HIv := hidOf2 (fun i (hi : i ∈ its) => HGd.out i hi)
        have HPe : Hid ((its.map Im.e).Perm (l.map En.plain)) := by rw [HAl.out.e]; exact HPm
        clear HCA HBA HGd HPm Hbs HAl
        have HC0 := hidOf2 (fun (x : World) (hb : Below w.heap.size w x) (k : Nat) (hk : k < l.length) => HW0.out.same hb.size (fun b _ hl => hb.block b hl) |>.at0 k hk)
        go_wp2
        go_loopw [8] (fun i x => ∃ k : Nat, k ≤ l.length ∧ i = .int .i64 k ∧ Hid (Dct D R its x) ∧ Hid (Below w.heap.size w x)) (fun i _ => l.length - (intOf i).toNat)
        case atStart => exact ⟨0, Nat.zero_le _, rfl, HDc, HB⟩
        case round =>
          clear HDc HB hkl
          obtain ⟨k, hk2, rfl, HDc, HB⟩ := hrel
          by_cases hkl : k < l.length
          · obtain ⟨eb, eo, cpx, hv, hab, hR⟩ := HW0.out.at0 k hkl
            injection hv with hv1 _ hv3
            subst hv1
            subst hv3
            obtain ⟨i, hi, hie, hf⟩ := fnd_entry HDc.out.sorted HPe.out (List.getElem_mem hkl)
            have hGi := HIv.out i hi
            have HCE : Hid (∀ x, Below w.heap.size w x → x.rangeAt eb (eo + k * 14) (enC l[k])) := fun x hb => rng_below hR hb hab
            have HVal : Hid (l[k].li = true → wiB l[k] i.v = true ∧ wiC l[k] i.v = 0) := fun h => by
              have := hGi.val (by rw [hie]; exact h)
              rw [hie] at this
              exact this
            have HCon : Hid (l[k].ac ≠ 2 → l[k].ac ≠ 1 → i.v = l[k].df.plain) := fun h1 h2 => by
              have := hGi.con (by rw [hie]; exact h1) (by rw [hie]; exact h2)
              rw [hie] at this
              exact this
            have hGet : Hid (∀ x, Below wr.heap.size wr x → Calls Try.prog 15 #[.pointer (some ⟨D, 0, none⟩), .int .u16 l[k].ix, .int .u8 l[k].sb] x fun e w' => e = .returned (.tuple #[.agg i.v.arr, .int .i64 0]) ∧ Below x.heap.size x w') := fun x hb => by
              have := Get_any (HDc.out.below hb) l[k].ix l[k].sb l[k].hix l[k].hsb
              have e1 : getV its l[k].ix l[k].sb = i.v := by unfold getV; rw [hf]
              have e2 : getE its l[k].ix l[k].sb = 0 := by unfold getE; rw [hf]
              rw [e1, e2] at this
              exact this
            have HSS : Hid (∀ x, Below w.heap.size w x → x.cell? ⟨eb, eo + k * 14, none⟩ = some (.int .u16 l[k].ix) ∧ x.cell? ⟨eb, eo + k * 14 + 1, none⟩ = some (.int .u8 l[k].sb)) := fun x hb => ⟨HCE.out x hb 0 _ rfl, HCE.out x hb 1 _ rfl⟩
            clear hGi hie hf hi hR
            generalize l[k] = E at *
            have S0 := HSS.out wr.drew (bdr HB.out 1)
            go_upto_region 11 with fail
            refine wp_region_held (S := fun x => x.cell? ⟨eb, eo + k * 14, none⟩ = some (.int .u16 E.ix) ∧ x.cell? ⟨eb, eo + k * 14 + 1, none⟩ = some (.int .u8 E.sb)) (by kernel_rfl) ?_
            change wpAnyH _ _ _ _ _ _ _ _ wr.drew
            refine wpAnyH_take (i := 0) (v := (.pointer (some ⟨D, 0, none⟩))) rfl (by kernel_rfl) (by kernel_rfl) (by kernel_rfl) (fun _ _ _ h => h) (.inl ⟨rfl, fun _ hS => rfl⟩) S0 ?_
            simp only [List.getElem_toArray, List.getElem_cons_succ, List.getElem_cons_zero, Act.put, List.setIfInBounds_toArray, List.set_cons_succ, List.set_cons_zero]
            refine wpAnyH_take (i := 1) (v := (.slice (some ⟨eb, eo, none⟩) l.length cp0)) rfl (by kernel_rfl) (by kernel_rfl) (by kernel_rfl) (fun _ _ _ h => h) (.inl ⟨rfl, fun _ hS => rfl⟩) S0 ?_
            simp only [List.getElem_toArray, List.getElem_cons_succ, List.getElem_cons_zero, Act.put, List.setIfInBounds_toArray, List.set_cons_succ, List.set_cons_zero]
            refine wpAnyH_take (i := 2) (v := (.int .i64 (k : Int))) rfl (by kernel_rfl) (by kernel_rfl) (by kernel_rfl) (fun _ _ _ h => h) (.inl ⟨rfl, fun _ hS => rfl⟩) S0 ?_
            simp only [List.getElem_toArray, List.getElem_cons_succ, List.getElem_cons_zero, Act.put, List.setIfInBounds_toArray, List.set_cons_succ, List.set_cons_zero]
            refine wpAnyH_take (i := 3) (v := (.pointer (some ⟨eb, eo + k * 14, none⟩))) rfl (by kernel_rfl) (by kernel_rfl) (by kernel_rfl) (fun _ _ _ h => h) (.inl ⟨rfl, fun _ hS => exec_idxE rfl rfl rfl hkl _⟩) S0 ?_
            simp only [List.getElem_toArray, List.getElem_cons_succ, List.getElem_cons_zero, Act.put, List.setIfInBounds_toArray, List.set_cons_succ, List.set_cons_zero]
            refine wpAnyH_take (i := 4) (v := (.pointer (some ⟨eb, eo + k * 14, none⟩))) rfl (by kernel_rfl) (by kernel_rfl) (by kernel_rfl) (fun _ _ _ h => h) (.inl ⟨rfl, fun _ hS => by simp [execOp, go_sem, Act.eval]⟩) S0 ?_
            simp only [List.getElem_toArray, List.getElem_cons_succ, List.getElem_cons_zero, Act.put, List.setIfInBounds_toArray, List.set_cons_succ, List.set_cons_zero]
            refine wpAnyH_take (i := 5) (v := (.int .u16 E.ix)) rfl (by kernel_rfl) (by kernel_rfl) (by kernel_rfl) (fun _ _ _ h => h) (.inl ⟨rfl, fun _ hS => exec_load rfl rfl (load_u16 _ _ _ _ hS.1)⟩) S0 ?_
            simp only [List.getElem_toArray, List.getElem_cons_succ, List.getElem_cons_zero, Act.put, List.setIfInBounds_toArray, List.set_cons_succ, List.set_cons_zero]
            refine wpAnyH_take (i := 6) (v := (.slice (some ⟨eb, eo, none⟩) l.length cp0)) rfl (by kernel_rfl) (by kernel_rfl) (by kernel_rfl) (fun _ _ _ h => h) (.inl ⟨rfl, fun _ hS => rfl⟩) S0 ?_
            simp only [List.getElem_toArray, List.getElem_cons_succ, List.getElem_cons_zero, Act.put, List.setIfInBounds_toArray, List.set_cons_succ, List.set_cons_zero]
            refine wpAnyH_take (i := 7) (v := (.int .i64 (k : Int))) rfl (by kernel_rfl) (by kernel_rfl) (by kernel_rfl) (fun _ _ _ h => h) (.inl ⟨rfl, fun _ hS => rfl⟩) S0 ?_
            simp only [List.getElem_toArray, List.getElem_cons_succ, List.getElem_cons_zero, Act.put, List.setIfInBounds_toArray, List.set_cons_succ, List.set_cons_zero]
            refine wpAnyH_take (i := 8) (v := (.pointer (some ⟨eb, eo + k * 14, none⟩))) rfl (by kernel_rfl) (by kernel_rfl) (by kernel_rfl) (fun _ _ _ h => h) (.inl ⟨rfl, fun _ hS => exec_idxE rfl rfl rfl hkl _⟩) S0 ?_
            simp only [List.getElem_toArray, List.getElem_cons_succ, List.getElem_cons_zero, Act.put, List.setIfInBounds_toArray, List.set_cons_succ, List.set_cons_zero]
            refine wpAnyH_take (i := 9) (v := (.pointer (some ⟨eb, eo + k * 14 + 1, none⟩))) rfl (by kernel_rfl) (by kernel_rfl) (by kernel_rfl) (fun _ _ _ h => h) (.inl ⟨rfl, fun _ hS => by simp [execOp, go_sem, Act.eval]⟩) S0 ?_
            simp only [List.getElem_toArray, List.getElem_cons_succ, List.getElem_cons_zero, Act.put, List.setIfInBounds_toArray, List.set_cons_succ, List.set_cons_zero]
            refine wpAnyH_take (i := 10) (v := (.int .u8 E.sb)) rfl (by kernel_rfl) (by kernel_rfl) (by kernel_rfl) (fun _ _ _ h => h) (.inl ⟨rfl, fun _ hS => exec_load rfl rfl (load_u8 _ _ _ _ hS.2)⟩) S0 ?_
            simp only [List.getElem_toArray, List.getElem_cons_succ, List.getElem_cons_zero, Act.put, List.setIfInBounds_toArray, List.set_cons_succ, List.set_cons_zero]
            refine wpAnyH_all (rs := [11, 15]) (by kernel_rfl) (by simp) ?_
            intro k hk
            simp only [List.mem_cons, List.mem_nil_iff, or_false] at hk
            rcases hk with rfl | rfl
            · refine wpOp_run rfl rfl (wp_call_fn 15 #[.pointer (some ⟨D, 0, none⟩), .int .u16 E.ix, .int .u8 E.sb] (by simp [execOp, go_sem, Act.eval, resolve, invoke, enterG]) ?_)
              refine (hGet.out wr.drew (bdr (Below.refl _ _) 1)).mono ?_
              rintro e w4 ⟨rfl, b4⟩
              have B4 := HB.out.trans ((bdrw b4).mono HB.out.size)
              have s4 := HSS.out _ B4
              refine ⟨s4, ?_⟩
              simp only [List.getElem_toArray, List.getElem_cons_succ, List.getElem_cons_zero, Act.put, List.setIfInBounds_toArray, List.set_cons_succ, List.set_cons_zero]
              refine wpAnyH_take (i := 12) (v := (.tuple #[.agg i.v.arr, .int .i64 0])) rfl (by kernel_rfl) (by kernel_rfl) (by kernel_rfl) (fun _ _ _ h => h) (.inl ⟨rfl, fun _ hS => rfl⟩) s4 ?_
              simp only [List.getElem_toArray, List.getElem_cons_succ, List.getElem_cons_zero, Act.put, List.setIfInBounds_toArray, List.set_cons_succ, List.set_cons_zero]
              refine wpAnyH_take (i := 13) (v := (.agg i.v.arr)) rfl (by kernel_rfl) (by kernel_rfl) (by kernel_rfl) (fun _ _ _ h => h) (.inl ⟨rfl, fun _ hS => by simp [execOp, go_sem, Act.eval]⟩) s4 ?_
              simp only [List.getElem_toArray, List.getElem_cons_succ, List.getElem_cons_zero, Act.put, List.setIfInBounds_toArray, List.set_cons_succ, List.set_cons_zero]
              refine wpAnyH_take (i := 14) (v := (.int .i64 0)) rfl (by kernel_rfl) (by kernel_rfl) (by kernel_rfl) (fun _ _ _ h => h) (.inl ⟨rfl, fun _ hS => by simp [execOp, go_sem, Act.eval]⟩) s4 ?_
              simp only [List.getElem_toArray, List.getElem_cons_succ, List.getElem_cons_zero, Act.put, List.setIfInBounds_toArray, List.set_cons_succ, List.set_cons_zero]
              refine wpAnyH_all (rs := [15]) (by kernel_rfl) (by simp) ?_
              intro k hk
              simp only [List.mem_cons, List.mem_nil_iff, or_false] at hk
              subst hk
              refine wpOp_run rfl rfl (wp_allocV rfl ?_)
              obtain ⟨q9, hq9⟩ : ∃ q, w4.heap.size = q := ⟨_, rfl⟩
              have g5 := Va.new w4 Vl.nul
              have B5 := B4.alloc B4.size (.cells Vl.nul.arr 33)
              have s5 := HSS.out _ B5
              have hq5 : w.heap.size ≤ q9 := by rw [← hq9]; exact B4.size
              have c5 := (bdrw b4).alloc (bdrw b4).size (.cells Vl.nul.arr 33)
              have hqr : wr.heap.size ≤ q9 := by rw [← hq9]; exact (bdrw b4).size
              rw [hq9] at g5 ⊢
              generalize w4.alloc (.cells Vl.nul.arr 33) = w5 at *
              refine ⟨s5, ?_⟩
              simp only [List.getElem_toArray, List.getElem_cons_succ, List.getElem_cons_zero, Act.put, List.setIfInBounds_toArray, List.set_cons_succ, List.set_cons_zero]
              refine wpAnyH_all (rs := [16]) (by kernel_rfl) (by simp) ?_
              intro k hk
              simp only [List.mem_cons, List.mem_nil_iff, or_false] at hk
              subst hk
              refine wpOp_run rfl rfl (wp_store_row 33 _ _ rfl q9 i.v.arr rfl rfl 33 Vl.nul.arr g5 (by rw [Vl.arr_size]; exact infoV) (by rw [Vl.arr_size, Vl.arr_size]) i.v.one ?_)
              have g6 := g5.row i.v
              have B6 := below_row B5 hq5 B5.size (q := q9) i.v.arr
              have s6 := HSS.out _ B6
              have c6 := below_row c5 hqr c5.size (q := q9) i.v.arr
              refine ⟨s6, ?_⟩
              simp only [List.getElem_toArray, List.getElem_cons_succ, List.getElem_cons_zero, Act.put, List.setIfInBounds_toArray, List.set_cons_succ, List.set_cons_zero]
              refine wpAnyH_take (i := 17) (v := (.int .i64 0)) rfl (by kernel_rfl) (by kernel_rfl) (by kernel_rfl) (fun _ _ _ h => h) (.inl ⟨rfl, fun _ hS => rfl⟩) s6 ?_
              simp only [List.getElem_toArray, List.getElem_cons_succ, List.getElem_cons_zero, Act.put, List.setIfInBounds_toArray, List.set_cons_succ, List.set_cons_zero]
              refine wpAnyH_done (by kernel_rfl) ?_ _
              have G6 := hidOf2 g6
              have H6 := hidOf2 B6
              have HD6 := hidOf2 (HDc.out.below c6)
              generalize w5.setRow q9 i.v.arr = w6 at *
              clear s4 s5 s6 g6 B6 B4 B5 g5 S0 HSS hGet HB hq5 c5 c6 hqr HDc
              go_upto_region 14 with fail
              have cL := HCE.out w6 H6.out 4 _ rfl
              cases hli : E.li
              · rw [hli] at cL
                have hLq := Later.some w6
                have kA : ∀ x : Later w6, x.now.cell? ⟨eb, eo + k * 14 + 2, none⟩ = some (.int .i64 E.ac) := fun x => HCE.out x.now (H6.out.trans (x.below.mono H6.out.size)) 2 _ rfl
                have kD := hidOf2 (fun (x : Later w6) => rng_df (HCE.out x.now (H6.out.trans (x.below.mono H6.out.size))))
                go_upto_region 18 with fail
                by_cases ha2 : E.ac = 2
                · rw [ha2] at kA
                  refine wp_region_later (by kernel_rfl) (by kernel_rfl) ?_
                  repeat (go_big_quiet_step (fail))
                  refine wpQuiet_nil ?_
                  rintro _ ⟨x1, rfl⟩
                  have B9 := hidOf2 (H6.out.trans (x1.below.mono H6.out.size))
                  have D9 := hidOf2 (HD6.out.below x1.below)
                  clear hLq kA kD HD6 H6 G6
                  generalize x1.now = w9 at *
                  clear x1
                  go_wp2
                  go_roundw
                  case rel => exact ⟨k + 1, by omega, by go_num, D9, B9⟩
                  case measure => simp [intOf]; omega
                · have d2 : (E.ac != 2) = true := by simpa using ha2
                  by_cases ha1 : E.ac = 1
                  · rw [ha1] at kA d2
                    clear d2
                    refine wp_region_later (by kernel_rfl) (by kernel_rfl) ?_
                    repeat (go_big_quiet_step (fail))
                    refine wpQuiet_nil ?_
                    rintro _ ⟨x1, rfl⟩
                    have B9 := hidOf2 (H6.out.trans (x1.below.mono H6.out.size))
                    have D9 := hidOf2 (HD6.out.below x1.below)
                    clear hLq kA kD HD6 H6 G6
                    generalize x1.now = w9 at *
                    clear x1
                    go_wp2
                    go_roundw
                    case rel => exact ⟨k + 1, by omega, by go_num, D9, B9⟩
                    case measure => simp [intOf]; omega
                  · have d1 : (E.ac != 1) = true := by simpa using ha1
                    have hEq := hidOf2 (HCon.out ha2 ha1)
                    have hB := (vlB_iff i.v E.df.plain).2 hEq.out
                    have hPl := r7Plain_v E.df
                    have rD := rng_df (HCE.out w6 H6.out)
                    generalize E.ac = A at *
                    refine wp_region_later (by kernel_rfl) (by kernel_rfl) ?_
                    repeat (go_big_quiet_step (fail))
                    refine quiet_ldv G6.out rfl _ rfl rfl ?_
                    simp only [Act.put, List.setIfInBounds_toArray, List.set_cons_succ, List.set_cons_zero]
                    repeat (go_big_quiet_step (fail))
                    refine quiet_ldV rD (Nat.lt_of_lt_of_le hab H6.out.size) rfl _ rfl rfl ?_
                    simp only [Act.put, List.setIfInBounds_toArray, List.set_cons_succ, List.set_cons_zero]
                    go_big_quiet_step (first | (go_at_call 17; with_reducible exact later (hPl _)))
                    refine quiet_neqv i.v E.df.plain rfl _ _ rfl rfl rfl ?_
                    rw [hB]
                    simp only [Act.put, List.setIfInBounds_toArray, List.set_cons_succ, List.set_cons_zero]
                    repeat (go_big_quiet_step (fail))
                    refine wpQuiet_nil ?_
                    rintro _ ⟨x1, rfl⟩
                    have B9 := hidOf2 (H6.out.trans (x1.below.mono H6.out.size))
                    have D9 := hidOf2 (HD6.out.below x1.below)
                    clear hLq kA kD HD6 H6 G6
                    generalize x1.now = w9 at *
                    clear x1
                    go_wp2
                    go_roundw
                    case rel => exact ⟨k + 1, by omega, by go_num, D9, B9⟩
                    case measure => simp [intOf]; omega
              · rw [hli] at cL
                have hWi := r8Within_any E i.v
                rw [(HVal.out hli).1, (HVal.out hli).2] at hWi
                have hrE := HCE.out w6 H6.out
                have hLw := Later.some w6
                go_upto_region 15 with fail
                refine wp_region_later (by kernel_rfl) (by kernel_rfl) ?_
                repeat (go_big_quiet_step (fail))
                refine quiet_ldE hrE (Nat.lt_of_lt_of_le hab H6.out.size) rfl _ rfl rfl ?_
                simp only [Act.put, List.setIfInBounds_toArray, List.set_cons_succ, List.set_cons_zero]
                refine quiet_ldv G6.out rfl _ rfl rfl ?_
                simp only [Act.put, List.setIfInBounds_toArray, List.set_cons_succ, List.set_cons_zero]
                repeat (go_big_quiet_step (first | (go_at_call 16; with_reducible exact later (hWi _))))
                refine wpQuiet_nil ?_
                rintro _ ⟨x0, rfl⟩
                have H7 := hidOf2 (H6.out.trans (x0.below.mono H6.out.size))
                have G7 := hidOf2 (G6.out.below x0.below)
                have HD7 := hidOf2 (HD6.out.below x0.below)
                clear hLw hrE cL hWi G6 H6 HD6
                generalize x0.now = w7 at *
                clear x0
                have hLq := Later.some w7
                have kA : ∀ x : Later w7, x.now.cell? ⟨eb, eo + k * 14 + 2, none⟩ = some (.int .i64 E.ac) := fun x => HCE.out x.now (H7.out.trans (x.below.mono H7.out.size)) 2 _ rfl
                have kD := hidOf2 (fun (x : Later w7) => rng_df (HCE.out x.now (H7.out.trans (x.below.mono H7.out.size))))
                go_upto_region 18 with fail
                by_cases ha2 : E.ac = 2
                · rw [ha2] at kA
                  refine wp_region_later (by kernel_rfl) (by kernel_rfl) ?_
                  repeat (go_big_quiet_step (fail))
                  refine wpQuiet_nil ?_
                  rintro _ ⟨x1, rfl⟩
                  have B9 := hidOf2 (H7.out.trans (x1.below.mono H7.out.size))
                  have D9 := hidOf2 (HD7.out.below x1.below)
                  clear hLq kA kD HD7 H7 G7
                  generalize x1.now = w9 at *
                  clear x1
                  go_wp2
                  go_roundw
                  case rel => exact ⟨k + 1, by omega, by go_num, D9, B9⟩
                  case measure => simp [intOf]; omega
                · have d2 : (E.ac != 2) = true := by simpa using ha2
                  by_cases ha1 : E.ac = 1
                  · rw [ha1] at kA d2
                    clear d2
                    refine wp_region_later (by kernel_rfl) (by kernel_rfl) ?_
                    repeat (go_big_quiet_step (fail))
                    refine wpQuiet_nil ?_
                    rintro _ ⟨x1, rfl⟩
                    have B9 := hidOf2 (H7.out.trans (x1.below.mono H7.out.size))
                    have D9 := hidOf2 (HD7.out.below x1.below)
                    clear hLq kA kD HD7 H7 G7
                    generalize x1.now = w9 at *
                    clear x1
                    go_wp2
                    go_roundw
                    case rel => exact ⟨k + 1, by omega, by go_num, D9, B9⟩
                    case measure => simp [intOf]; omega
                  · have d1 : (E.ac != 1) = true := by simpa using ha1
                    have hEq := hidOf2 (HCon.out ha2 ha1)
                    have hB := (vlB_iff i.v E.df.plain).2 hEq.out
                    have hPl := r7Plain_v E.df
                    have rD := rng_df (HCE.out w7 H7.out)
                    generalize E.ac = A at *
                    refine wp_region_later (by kernel_rfl) (by kernel_rfl) ?_
                    repeat (go_big_quiet_step (fail))
                    refine quiet_ldv G7.out rfl _ rfl rfl ?_
                    simp only [Act.put, List.setIfInBounds_toArray, List.set_cons_succ, List.set_cons_zero]
                    repeat (go_big_quiet_step (fail))
                    refine quiet_ldV rD (Nat.lt_of_lt_of_le hab H7.out.size) rfl _ rfl rfl ?_
                    simp only [Act.put, List.setIfInBounds_toArray, List.set_cons_succ, List.set_cons_zero]
                    go_big_quiet_step (first | (go_at_call 17; with_reducible exact later (hPl _)))
                    refine quiet_neqv i.v E.df.plain rfl _ _ rfl rfl rfl ?_
                    rw [hB]
                    simp only [Act.put, List.setIfInBounds_toArray, List.set_cons_succ, List.set_cons_zero]
                    repeat (go_big_quiet_step (fail))
                    refine wpQuiet_nil ?_
                    rintro _ ⟨x1, rfl⟩
                    have B9 := hidOf2 (H7.out.trans (x1.below.mono H7.out.size))
                    have D9 := hidOf2 (HD7.out.below x1.below)
                    clear hLq kA kD HD7 H7 G7
                    generalize x1.now = w9 at *
                    clear x1
                    go_wp2
                    go_roundw
                    case rel => exact ⟨k + 1, by omega, by go_num, D9, B9⟩
                    case measure => simp [intOf]; omega
            · refine wpOp_run rfl rfl (wp_allocV rfl ?_)
              obtain ⟨q9, hq9⟩ : ∃ q, wr.drew.heap.size = q := ⟨_, rfl⟩
              have g4 := Va.new wr.drew Vl.nul
              have B4 : Below w.heap.size w (wr.drew.alloc (.cells Vl.nul.arr 33)) := (bdr HB.out 1).alloc HB.out.size (.cells Vl.nul.arr 33)
              have b4 : Below wr.heap.size wr (wr.drew.alloc (.cells Vl.nul.arr 33)) := (bdr (Below.refl _ _) 1).alloc (Nat.le_refl _) _
              have s4 := HSS.out _ B4
              have hq5 : w.heap.size ≤ q9 := by rw [← hq9]; exact HB.out.size
              have hqr : wr.heap.size ≤ q9 := by rw [← hq9]; exact Nat.le_refl _
              rw [hq9] at g4 ⊢
              generalize wr.drew.alloc (.cells Vl.nul.arr 33) = w4 at *
              refine ⟨s4, ?_⟩
              simp only [List.getElem_toArray, List.getElem_cons_succ, List.getElem_cons_zero, Act.put, List.setIfInBounds_toArray, List.set_cons_succ, List.set_cons_zero]
              refine wpAnyH_all (rs := [11]) (by kernel_rfl) (by simp) ?_
              intro k hk
              simp only [List.mem_cons, List.mem_nil_iff, or_false] at hk
              subst hk
              refine wpOp_run rfl rfl (wp_call_fn 15 #[.pointer (some ⟨D, 0, none⟩), .int .u16 E.ix, .int .u8 E.sb] (by simp [execOp, go_sem, Act.eval, resolve, invoke, enterG]) ?_)
              refine (hGet.out w4 b4).mono ?_
              rintro e w5 ⟨rfl, b5⟩
              have g5 := g4.below b5
              have B5 := B4.trans (b5.mono B4.size)
              have s5 := HSS.out _ B5
              have c5 := b4.trans (b5.mono b4.size)
              refine ⟨s5, ?_⟩
              simp only [List.getElem_toArray, List.getElem_cons_succ, List.getElem_cons_zero, Act.put, List.setIfInBounds_toArray, List.set_cons_succ, List.set_cons_zero]
              refine wpAnyH_take (i := 12) (v := (.tuple #[.agg i.v.arr, .int .i64 0])) rfl (by kernel_rfl) (by kernel_rfl) (by kernel_rfl) (fun _ _ _ h => h) (.inl ⟨rfl, fun _ hS => rfl⟩) s5 ?_
              simp only [List.getElem_toArray, List.getElem_cons_succ, List.getElem_cons_zero, Act.put, List.setIfInBounds_toArray, List.set_cons_succ, List.set_cons_zero]
              refine wpAnyH_take (i := 13) (v := (.agg i.v.arr)) rfl (by kernel_rfl) (by kernel_rfl) (by kernel_rfl) (fun _ _ _ h => h) (.inl ⟨rfl, fun _ hS => by simp [execOp, go_sem, Act.eval]⟩) s5 ?_
              simp only [List.getElem_toArray, List.getElem_cons_succ, List.getElem_cons_zero, Act.put, List.setIfInBounds_toArray, List.set_cons_succ, List.set_cons_zero]
              refine wpAnyH_take (i := 14) (v := (.int .i64 0)) rfl (by kernel_rfl) (by kernel_rfl) (by kernel_rfl) (fun _ _ _ h => h) (.inl ⟨rfl, fun _ hS => by simp [execOp, go_sem, Act.eval]⟩) s5 ?_
              simp only [List.getElem_toArray, List.getElem_cons_succ, List.getElem_cons_zero, Act.put, List.setIfInBounds_toArray, List.set_cons_succ, List.set_cons_zero]
              refine wpAnyH_all (rs := [16]) (by kernel_rfl) (by simp) ?_
              intro k hk
              simp only [List.mem_cons, List.mem_nil_iff, or_false] at hk
              subst hk
              refine wpOp_run rfl rfl (wp_store_row 33 _ _ rfl q9 i.v.arr rfl rfl 33 Vl.nul.arr g5 (by rw [Vl.arr_size]; exact infoV) (by rw [Vl.arr_size, Vl.arr_size]) i.v.one ?_)
              have g6 := g5.row i.v
              have B6 := below_row B5 hq5 B5.size (q := q9) i.v.arr
              have s6 := HSS.out _ B6
              have c6 := below_row c5 hqr c5.size (q := q9) i.v.arr
              refine ⟨s6, ?_⟩
              simp only [List.getElem_toArray, List.getElem_cons_succ, List.getElem_cons_zero, Act.put, List.setIfInBounds_toArray, List.set_cons_succ, List.set_cons_zero]
              refine wpAnyH_take (i := 17) (v := (.int .i64 0)) rfl (by kernel_rfl) (by kernel_rfl) (by kernel_rfl) (fun _ _ _ h => h) (.inl ⟨rfl, fun _ hS => rfl⟩) s6 ?_
              simp only [List.getElem_toArray, List.getElem_cons_succ, List.getElem_cons_zero, Act.put, List.setIfInBounds_toArray, List.set_cons_succ, List.set_cons_zero]
              refine wpAnyH_done (by kernel_rfl) ?_ _
              have G6 := hidOf2 g6
              have H6 := hidOf2 B6
              have HD6 := hidOf2 (HDc.out.below c6)
              generalize w5.setRow q9 i.v.arr = w6 at *
              clear s4 s5 s6 g6 B6 B4 B5 g5 S0 HSS hGet HB hq5 c5 c6 hqr HDc
              go_upto_region 14 with fail
              have cL := HCE.out w6 H6.out 4 _ rfl
              cases hli : E.li
              · rw [hli] at cL
                have hLq := Later.some w6
                have kA : ∀ x : Later w6, x.now.cell? ⟨eb, eo + k * 14 + 2, none⟩ = some (.int .i64 E.ac) := fun x => HCE.out x.now (H6.out.trans (x.below.mono H6.out.size)) 2 _ rfl
                have kD := hidOf2 (fun (x : Later w6) => rng_df (HCE.out x.now (H6.out.trans (x.below.mono H6.out.size))))
                go_upto_region 18 with fail
                by_cases ha2 : E.ac = 2
                · rw [ha2] at kA
                  refine wp_region_later (by kernel_rfl) (by kernel_rfl) ?_
                  repeat (go_big_quiet_step (fail))
                  refine wpQuiet_nil ?_
                  rintro _ ⟨x1, rfl⟩
                  have B9 := hidOf2 (H6.out.trans (x1.below.mono H6.out.size))
                  have D9 := hidOf2 (HD6.out.below x1.below)
                  clear hLq kA kD HD6 H6 G6
                  generalize x1.now = w9 at *
                  clear x1
                  go_wp2
                  go_roundw
                  case rel => exact ⟨k + 1, by omega, by go_num, D9, B9⟩
                  case measure => simp [intOf]; omega
                · have d2 : (E.ac != 2) = true := by simpa using ha2
                  by_cases ha1 : E.ac = 1
                  · rw [ha1] at kA d2
                    clear d2
                    refine wp_region_later (by kernel_rfl) (by kernel_rfl) ?_
                    repeat (go_big_quiet_step (fail))
                    refine wpQuiet_nil ?_
                    rintro _ ⟨x1, rfl⟩
                    have B9 := hidOf2 (H6.out.trans (x1.below.mono H6.out.size))
                    have D9 := hidOf2 (HD6.out.below x1.below)
                    clear hLq kA kD HD6 H6 G6
                    generalize x1.now = w9 at *
                    clear x1
                    go_wp2
                    go_roundw
                    case rel => exact ⟨k + 1, by omega, by go_num, D9, B9⟩
                    case measure => simp [intOf]; omega
                  · have d1 : (E.ac != 1) = true := by simpa using ha1
                    have hEq := hidOf2 (HCon.out ha2 ha1)
                    have hB := (vlB_iff i.v E.df.plain).2 hEq.out
                    have hPl := r7Plain_v E.df
                    have rD := rng_df (HCE.out w6 H6.out)
                    generalize E.ac = A at *
                    refine wp_region_later (by kernel_rfl) (by kernel_rfl) ?_
                    repeat (go_big_quiet_step (fail))
                    refine quiet_ldv G6.out rfl _ rfl rfl ?_
                    simp only [Act.put, List.setIfInBounds_toArray, List.set_cons_succ, List.set_cons_zero]
                    repeat (go_big_quiet_step (fail))
                    refine quiet_ldV rD (Nat.lt_of_lt_of_le hab H6.out.size) rfl _ rfl rfl ?_
                    simp only [Act.put, List.setIfInBounds_toArray, List.set_cons_succ, List.set_cons_zero]
                    go_big_quiet_step (first | (go_at_call 17; with_reducible exact later (hPl _)))
                    refine quiet_neqv i.v E.df.plain rfl _ _ rfl rfl rfl ?_
                    rw [hB]
                    simp only [Act.put, List.setIfInBounds_toArray, List.set_cons_succ, List.set_cons_zero]
                    repeat (go_big_quiet_step (fail))
                    refine wpQuiet_nil ?_
                    rintro _ ⟨x1, rfl⟩
                    have B9 := hidOf2 (H6.out.trans (x1.below.mono H6.out.size))
                    have D9 := hidOf2 (HD6.out.below x1.below)
                    clear hLq kA kD HD6 H6 G6
                    generalize x1.now = w9 at *
                    clear x1
                    go_wp2
                    go_roundw
                    case rel => exact ⟨k + 1, by omega, by go_num, D9, B9⟩
                    case measure => simp [intOf]; omega
              · rw [hli] at cL
                have hWi := r8Within_any E i.v
                rw [(HVal.out hli).1, (HVal.out hli).2] at hWi
                have hrE := HCE.out w6 H6.out
                have hLw := Later.some w6
                go_upto_region 15 with fail
                refine wp_region_later (by kernel_rfl) (by kernel_rfl) ?_
                repeat (go_big_quiet_step (fail))
                refine quiet_ldE hrE (Nat.lt_of_lt_of_le hab H6.out.size) rfl _ rfl rfl ?_
                simp only [Act.put, List.setIfInBounds_toArray, List.set_cons_succ, List.set_cons_zero]
                refine quiet_ldv G6.out rfl _ rfl rfl ?_
                simp only [Act.put, List.setIfInBounds_toArray, List.set_cons_succ, List.set_cons_zero]
                repeat (go_big_quiet_step (first | (go_at_call 16; with_reducible exact later (hWi _))))
                refine wpQuiet_nil ?_
                rintro _ ⟨x0, rfl⟩
                have H7 := hidOf2 (H6.out.trans (x0.below.mono H6.out.size))
                have G7 := hidOf2 (G6.out.below x0.below)
                have HD7 := hidOf2 (HD6.out.below x0.below)
                clear hLw hrE cL hWi G6 H6 HD6
                generalize x0.now = w7 at *
                clear x0
                have hLq := Later.some w7
                have kA : ∀ x : Later w7, x.now.cell? ⟨eb, eo + k * 14 + 2, none⟩ = some (.int .i64 E.ac) := fun x => HCE.out x.now (H7.out.trans (x.below.mono H7.out.size)) 2 _ rfl
                have kD := hidOf2 (fun (x : Later w7) => rng_df (HCE.out x.now (H7.out.trans (x.below.mono H7.out.size))))
                go_upto_region 18 with fail
                by_cases ha2 : E.ac = 2
                · rw [ha2] at kA
                  refine wp_region_later (by kernel_rfl) (by kernel_rfl) ?_
                  repeat (go_big_quiet_step (fail))
                  refine wpQuiet_nil ?_
                  rintro _ ⟨x1, rfl⟩
                  have B9 := hidOf2 (H7.out.trans (x1.below.mono H7.out.size))
                  have D9 := hidOf2 (HD7.out.below x1.below)
                  clear hLq kA kD HD7 H7 G7
                  generalize x1.now = w9 at *
                  clear x1
                  go_wp2
                  go_roundw
                  case rel => exact ⟨k + 1, by omega, by go_num, D9, B9⟩
                  case measure => simp [intOf]; omega
                · have d2 : (E.ac != 2) = true := by simpa using ha2
                  by_cases ha1 : E.ac = 1
                  · rw [ha1] at kA d2
                    clear d2
                    refine wp_region_later (by kernel_rfl) (by kernel_rfl) ?_
                    repeat (go_big_quiet_step (fail))
                    refine wpQuiet_nil ?_
                    rintro _ ⟨x1, rfl⟩
                    have B9 := hidOf2 (H7.out.trans (x1.below.mono H7.out.size))
                    have D9 := hidOf2 (HD7.out.below x1.below)
                    clear hLq kA kD HD7 H7 G7
                    generalize x1.now = w9 at *
                    clear x1
                    go_wp2
                    go_roundw
                    case rel => exact ⟨k + 1, by omega, by go_num, D9, B9⟩
                    case measure => simp [intOf]; omega
                  · have d1 : (E.ac != 1) = true := by simpa using ha1
                    have hEq := hidOf2 (HCon.out ha2 ha1)
                    have hB := (vlB_iff i.v E.df.plain).2 hEq.out
                    have hPl := r7Plain_v E.df
                    have rD := rng_df (HCE.out w7 H7.out)
                    generalize E.ac = A at *
                    refine wp_region_later (by kernel_rfl) (by kernel_rfl) ?_
                    repeat (go_big_quiet_step (fail))
                    refine quiet_ldv G7.out rfl _ rfl rfl ?_
                    simp only [Act.put, List.setIfInBounds_toArray, List.set_cons_succ, List.set_cons_zero]
                    repeat (go_big_quiet_step (fail))
                    refine quiet_ldV rD (Nat.lt_of_lt_of_le hab H7.out.size) rfl _ rfl rfl ?_
                    simp only [Act.put, List.setIfInBounds_toArray, List.set_cons_succ, List.set_cons_zero]
                    go_big_quiet_step (first | (go_at_call 17; with_reducible exact later (hPl _)))
                    refine quiet_neqv i.v E.df.plain rfl _ _ rfl rfl rfl ?_
                    rw [hB]
                    simp only [Act.put, List.setIfInBounds_toArray, List.set_cons_succ, List.set_cons_zero]
                    repeat (go_big_quiet_step (fail))
                    refine wpQuiet_nil ?_
                    rintro _ ⟨x1, rfl⟩
                    have B9 := hidOf2 (H7.out.trans (x1.below.mono H7.out.size))
                    have D9 := hidOf2 (HD7.out.below x1.below)
                    clear hLq kA kD HD7 H7 G7
                    generalize x1.now = w9 at *
                    clear x1
                    go_wp2
                    go_roundw
                    case rel => exact ⟨k + 1, by omega, by go_num, D9, B9⟩
                    case measure => simp [intOf]; omega
          · have hS := hL8 wr
            go_wp2_with fail
            refine hS.mono ?_
            rintro e w3 ⟨rfl, b3⟩
            have B3 := HB.out.trans (b3.mono HB.out.size)
            clear hS
            go_wp2
            go_ret
            exact ⟨rfl, B3⟩
  · obtain ⟨rfl, b2⟩ := HB2.out hc
    have B2 := B1.trans (b2.mono B1.size)
    have hC := r8Check_any _ l w2 (HW0.out.same B2.size (fun b _ hl => B2.block b hl)) (by omega)
    have d1 : ((chkL l : Int) != 0) = true := by simpa using hc
    clear HG HB2 b2 B1 HW0 HCA HBA
    generalize chkL l = C at *
    go_wp2_with fail
    refine hC.mono ?_
    rintro e w3 ⟨rfl, b3⟩
    have B3 := B2.trans (b3.mono B2.size)
    have hS := hL8 w3
    clear hC B2 b3
    go_wp2_with fail
    refine hS.mono ?_
    rintro e w4 ⟨rfl, b4⟩
    have B4 := B3.trans (b4.mono B3.size)
    clear hS B3 b4
    go_wp2
    go_ret
    exact ⟨rfl, B4⟩
end Go.Proofs.Ytdcogpadioeclaa
