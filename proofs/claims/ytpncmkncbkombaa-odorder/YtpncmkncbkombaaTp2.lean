/- The law OdOrder returns true whatever comes in. -/
import Derived.Test.YtpncmkncbkombaaTp1
namespace Go.Proofs.Ytpncmkncbkombaa
open Go.RowKit Go.Proofs.Ty Go.Sort Go.Lib
set_option linter.unusedVariables false
set_option maxRecDepth 1000000
set_option linter.unusedSimpArgs false
theorem enterWo : ∀ args x, (callFunc 9 args).run Try.prog x = .ok (.enter 9 args) x := fun _ _ => by rfl
theorem enterSv : ∀ args x, (callFunc 16 args).run Try.prog x = .ok (.enter 16 args) x := fun _ _ => by rfl
theorem own_keep {x y : World} {B e c n : Nat} {v : Value} {xs : List Value} (h : x.ownsRow B e c v n xs) {r : Option Nat} (G : x.grownBy y r) (hne : v.ownBlock ≠ r) : y.ownsRow B e c v n xs := by
  refine ⟨h.1, h.2.imp id ?_⟩
  rintro ⟨g, cap, cur, e1, e2, e3, e4⟩
  subst e1
  exact ⟨g, cap, cur, rfl, e2, (G.block g (Array.getElem?_eq_some_iff.1 e3).1 (fun e => hne e)).trans e3, e4⟩
/-- Both dictionaries are written, act by act. -/
theorem rev_step (l : List En) (m : Nat) (hm : m < l.length) : (l.drop (m + 1)).reverse ++ [l[m]] = (l.drop m).reverse := by
  rw [List.drop_eq_getElem_cons hm, List.reverse_cons]
set_option maxHeartbeats 16000000 in
theorem oord_walk (v0 v1 : Value) (l : List En) (acts : List A8) (w : World) (h0 : Wide 14 enC w v0 l) (h1 : Wide 8 acC w v1 acts) (hn0 : l.length ≤ 1172812402927) (hn1 : acts.length ≤ 1759218604390) (hb : ∀ a ∈ acts, Bytes w a.bv a.bl ∧ a.bl.length ≤ 140737488351232) :
    Calls Try.prog 5 #[v0, v1] w fun e w' => e = .returned (.bool true) ∧ Below w.heap.size w w' := by
  have HW0 := hidOf2 h0
  obtain ⟨ao0, cp0, rfl⟩ := h0.shape
  obtain ⟨ao1, cp1, rfl, _, hc1⟩ := h1
  have HCA : Hid (∀ (wr : World), Below w.heap.size w wr → ∀ k (hk : k < acts.length), ∃ b off, ao1 = some ⟨b, off, none⟩ ∧ b < w.heap.size ∧ wr.rangeAt b (off + k * 8) (acC acts[k])) := fun wr hb k hk => Wide.at hc1 hb k hk
  have HBA := hidOf2 hb
  have hBg := Begins_any _ l w h0 hn0
  have hL8 := lives8_any
  clear h0 hb hc1
  go_enter Try.func5, Try.ntmps5
  go_wp2_with fail
  refine hBg.mono ?_
  rintro e w1 ⟨B1, hbad, hgood⟩
  have HG := hidOf2 hgood
  have HB2 := hidOf2 hbad
  clear hBg hgood hbad
  by_cases hc : chkL l = 0
  · obtain ⟨X, D, R, E, its, vL, vV, rfl, N1⟩ := HG.out hc
    have HN1 := hidOf2 N1
    have hlen := (chkL_ok hc).1
    have bB : Below w1.heap.size w1 (w1.alloc (.cells #[] 42)) := (Below.refl _ _).alloc (Nat.le_refl _) _
    have HD2 := hidOf2 (N1.dct.below bB)
    have HX2 := hidOf2 ((bB.block X (Array.getElem?_eq_some_iff.1 N1.pair).1).trans N1.pair)
    have HB3 := hidOf2 (B1.trans (bB.mono B1.size))
    have HP2 := hidOf2 (own_lower (own0E w1) B1.size)
    clear HG HB2 N1 bB
    go_wp2_with (first | (refine bs0E rfl rfl ?_))
    generalize w1.alloc (.cells #[] 42) = w2 at *
    try simp only [Act.put]
    go_loopw [7, 8] (fun s7 s8 x => ∃ j : Nat, j ≤ l.length ∧ s8 = .int .i64 ((j : Int) - 1) ∧ Hid (x.ownsRow w.heap.size 42 14 s7 (l.drop j).reverse.length (flatW DE (l.drop j).reverse)) ∧ Hid (Dct D R its x) ∧ Hid (x.heap[X]? = some (.cells #[.pointer (some ⟨D, 0, none⟩), .pointer (some ⟨E, 0, none⟩)] 53 (0, 0))) ∧ Hid (Below w.heap.size w x)) (fun _ s8 _ => ((intOf s8) + 1).toNat)
    case atStart => exact ⟨l.length, Nat.le_refl _, rfl, by rw [List.drop_length]; exact HP2, HD2, HX2, HB3⟩
    case round =>
      clear HP2 HD2 HX2 HB3
      obtain ⟨j, hj, rfl, HP, HD, HX, HB⟩ := hrel
      cases j with
      | succ m =>
        have em : ((m + 1 : Nat) : Int) - 1 = (m : Int) := by omega
        rw [em]
        have hml : m < l.length := hj
        obtain ⟨eb, eo, cpx, hv, hab, hR⟩ := HW0.out.at0 m hml
        injection hv with hv1 _ hv3
        subst hv1
        subst hv3
        have hRx := rng_below hR HB.out hab
        have HT := hidOf2 (rev_step l m hml)
        have hll : (l.drop (m + 1)).reverse.length ≤ 1024 := by simp; omega
        generalize l[m] = e at *
        have bA : Below wr.heap.size wr (wr.alloc (.cells (DE.dec e).toArray 42)) := (Below.refl _ _).alloc (Nat.le_refl _) _
        have P7 := ownsRow_alloc HP.out (.cells (DE.dec e).toArray 42)
        have hWv := wide_new DE wr e 42
        have hbs : w.heap.size ≤ (wr.alloc (.cells (DE.dec e).toArray 42)).heap.size := Nat.le_trans HB.out.size bA.size
        clear hR
        go_wp2_with (first | (refine ldE hRx rfl _ rfl rfl ?_) | (refine one_bs DE e 22 42 _ 120 rfl _ rfl rfl Try.underlying22 infoEz (by decide) ?_; clear hRx) | (refine apE rfl _ _ rfl w.heap.size _ (l.drop (m + 1)).reverse rfl P7 _ [e] rfl hWv (by simp at hll ⊢; omega) hbs ?_; intro v8 w8 P8 G8; have hr8 := fun b hb => (own_of P7 (g := b) hb).2; have HP8 := hidOf2 P8; have HD8 := hidOf2 (row_dct G8 hr8 (by decide) (by decide) (by decide) (HD.out.below bA)); have HX8 := hidOf2 (row_other G8 hr8 ((bA.block X (Array.getElem?_eq_some_iff.1 HX.out).1).trans HX.out) (by decide)); have HB8 := hidOf2 ((HB.out.trans (bA.mono HB.out.size)).grown G8 hbs (own_lt P7)); clear P8 G8 hr8 P7 hWv bA hbs))
        go_roundw
        case rel => exact ⟨m, by omega, rfl, by rw [← HT.out]; exact HP8, HD8, HX8, HB8⟩
        case measure => simp [intOf]
      | zero =>
        rw [List.drop_zero] at HP
        have hN := (oNew_any _ l.reverse wr (wide_of_own DE HP.out) (by simp; omega)).mono (fun _ _ h => h.2 (chkL_perm hc (List.reverse_perm l)))
        clear HP
        go_wp2_with fail
        refine hN.mono ?_
        rintro e w4 ⟨D2, R2, its2, rfl, N2⟩
        have HSe4 : Hid (Se w X D R E D2 R2 its its2 w4) := ⟨HD.out.below N2.below, N2.dct, (N2.below.block X (Array.getElem?_eq_some_iff.1 HX.out).1).trans HX.out, HB.out.trans (N2.below.mono HB.out.size),
          (fun b hb => by obtain ⟨i, hi, rfl⟩ := List.mem_map.1 hb; exact HN1.out.base i hi), (fun b hb => by obtain ⟨i, hi, rfl⟩ := List.mem_map.1 hb; exact Nat.le_trans HB.out.size (N2.base i hi)),
          (fun b hb h2 => by
            obtain ⟨i, hi, rfl⟩ := List.mem_map.1 hb
            obtain ⟨i2, hi2, e2⟩ := List.mem_map.1 h2
            have := (HD.out.items i hi).lt
            have := N2.base i2 hi2
            omega), tw_new HD.out.sorted N2.dct.sorted HN1.out.vals N2.vals HN1.out.perm N2.perm (List.reverse_perm l)⟩
        clear hN HN1 HD HX HB N2 HW0
        go_wp2
        go_loopw [11] (fun s11 x => ∃ (k : Nat) (its its2 : List Im), k ≤ acts.length ∧ s11 = .int .i64 k ∧ Hid (Se w X D R E D2 R2 its its2 x)) (fun s11 _ => acts.length - (intOf s11).toNat)
        case atStart => exact ⟨0, its, its2, Nat.zero_le _, rfl, HSe4⟩
        case round =>
          clear HSe4
          obtain ⟨k, its, its2, hk, rfl, HSe⟩ := hrel
          by_cases hka : k < acts.length
          · obtain ⟨ab, ao, hao, hab, hR⟩ := HCA.out wr HSe.out.below k hka
            subst hao
            have HBy := hidOf2 (HBA.out acts[k] (List.getElem_mem hka))
            generalize acts[k] = A at *
            obtain ⟨aob, cpb, hbv⟩ := bytes_shape HBy.out.1
            rw [hbv] at HBy
            have hbo : A.bv.oneCell' = true := by rw [hbv]; rfl
            have hz : (wr.alloc (.cells #[.int .i64 0, .int .u16 0, .int .u8 0, .slice none 0 0, .int .i64 0, .int .u64 0, .string ⟨#[]⟩, .int .u16 0] 38)).heap[wr.heap.size]? = some (.cells #[.int .i64 0, .int .u16 0, .int .u8 0, .slice none 0 0, .int .i64 0, .int .u64 0, .string ⟨#[]⟩, .int .u16 0] 38 (0, 0)) := heap_alloc_new _ _
            have hA3 : Aq wr.heap.size A ((wr.alloc (.cells #[.int .i64 0, .int .u16 0, .int .u8 0, .slice none 0 0, .int .i64 0, .int .u64 0, .string ⟨#[]⟩, .int .u16 0] 38)).setRow wr.heap.size A.arr) := setRow_heap _ _ _ _ _ _ hz
            have bq : Below wr.heap.size wr ((wr.alloc (.cells #[.int .i64 0, .int .u16 0, .int .u8 0, .slice none 0 0, .int .i64 0, .int .u64 0, .string ⟨#[]⟩, .int .u16 0] 38)).setRow wr.heap.size A.arr) := below_row ((Below.refl _ _).alloc (Nat.le_refl _) _) (Nat.le_refl _) (by rw [size_alloc]; omega) _
            have hSe3 := HSe.out.next bq
            have HA3 := hidOf2 hA3
            have HS3 := hidOf2 hSe3
            clear hA3 hSe3 bq
            go_upto_region 16 with (first | (refine ldA hR rfl _ rfl rfl ?_; clear hR) | (refine sdA hz rfl A hbo rfl _ _ rfl rfl rfl ?_; clear hz))
            obtain ⟨q, hq⟩ : ∃ q, wr.heap.size = q := ⟨_, rfl⟩
            try simp only [hq]
            rw [hq] at HA3 HS3
            generalize (wr.alloc (.cells #[.int .i64 0, .int .u16 0, .int .u8 0, .slice none 0 0, .int .i64 0, .int .u64 0, .string ⟨#[]⟩, .int .u16 0] 38)).setRow q A.arr = w3 at *
            have hAc : ∀ {x : World}, Aq q A x → x.cell? ⟨q, 1, none⟩ = some (.int .u16 A.ix) ∧ x.cell? ⟨q, 2, none⟩ = some (.int .u8 A.sb) ∧ x.cell? ⟨q, 3, none⟩ = some (.slice aob A.bl.length cpb) := fun h => by
              have h2 := Aq.c h
              rw [hbv] at h2
              exact h2
            have O0 := HS3.out.next (bdr (Below.refl _ w3) 1)
            have A0 : Aq q A w3.drew := ((bdr (Below.refl _ w3) 1).block q (Array.getElem?_eq_some_iff.1 HA3.out).1).trans HA3.out
            have S0 : w3.drew.cell? ⟨X, 0, none⟩ = some (.pointer (some ⟨D, 0, none⟩)) ∧ w3.drew.cell? ⟨q, 1, none⟩ = some (.int .u16 A.ix) ∧ w3.drew.cell? ⟨q, 2, none⟩ = some (.int .u8 A.sb) ∧ w3.drew.cell? ⟨q, 3, none⟩ = some (.slice aob A.bl.length cpb) := ⟨O0.cX, (hAc A0).1, (hAc A0).2.1, (hAc A0).2.2⟩
            clear hbv hbo HA3 HS3 HCA HBA hab
            refine wp_region_held (S := fun x => x.cell? ⟨X, 0, none⟩ = some (.pointer (some ⟨D, 0, none⟩)) ∧ x.cell? ⟨q, 1, none⟩ = some (.int .u16 A.ix) ∧ x.cell? ⟨q, 2, none⟩ = some (.int .u8 A.sb) ∧ x.cell? ⟨q, 3, none⟩ = some (.slice aob A.bl.length cpb)) (by kernel_rfl) ?_
            change wpAnyH _ _ _ _ _ _ _ _ w3.drew
            refine wpAnyH_take (i := 0) (v := (.pointer (some ⟨X, 0, none⟩))) rfl (by kernel_rfl) (by kernel_rfl) (by kernel_rfl) (fun _ _ _ h => h) (.inl ⟨rfl, fun _ hS => rfl⟩) S0 ?_
            simp only [List.getElem_toArray, List.getElem_cons_succ, List.getElem_cons_zero, Act.put, List.setIfInBounds_toArray, List.set_cons_succ, List.set_cons_zero]
            refine wpAnyH_take (i := 1) (v := (.pointer (some ⟨X, 0, none⟩))) rfl (by kernel_rfl) (by kernel_rfl) (by kernel_rfl) (fun _ _ _ h => h) (.inl ⟨rfl, fun _ hS => by simp [execOp, go_sem, Act.eval]⟩) S0 ?_
            simp only [List.getElem_toArray, List.getElem_cons_succ, List.getElem_cons_zero, Act.put, List.setIfInBounds_toArray, List.set_cons_succ, List.set_cons_zero]
            refine wpAnyH_take (i := 2) (v := (.pointer (some ⟨X, 0, none⟩))) rfl (by kernel_rfl) (by kernel_rfl) (by kernel_rfl) (fun _ _ _ h => h) (.inl ⟨rfl, fun _ hS => by simp [execOp, go_sem, Act.eval]⟩) S0 ?_
            simp only [List.getElem_toArray, List.getElem_cons_succ, List.getElem_cons_zero, Act.put, List.setIfInBounds_toArray, List.set_cons_succ, List.set_cons_zero]
            refine wpAnyH_take (i := 3) (v := (.pointer (some ⟨D, 0, none⟩))) rfl (by kernel_rfl) (by kernel_rfl) (by kernel_rfl) (fun _ _ _ h => h) (.inl ⟨rfl, fun _ hS => exec_load rfl rfl (load_pd _ _ _ _ hS.1)⟩) S0 ?_
            simp only [List.getElem_toArray, List.getElem_cons_succ, List.getElem_cons_zero, Act.put, List.setIfInBounds_toArray, List.set_cons_succ, List.set_cons_zero]
            refine wpAnyH_take (i := 4) (v := (.pointer (some ⟨q, 1, none⟩))) rfl (by kernel_rfl) (by kernel_rfl) (by kernel_rfl) (fun _ _ _ h => h) (.inl ⟨rfl, fun _ hS => by simp [execOp, go_sem, Act.eval]⟩) S0 ?_
            simp only [List.getElem_toArray, List.getElem_cons_succ, List.getElem_cons_zero, Act.put, List.setIfInBounds_toArray, List.set_cons_succ, List.set_cons_zero]
            refine wpAnyH_take (i := 5) (v := (.int .u16 A.ix)) rfl (by kernel_rfl) (by kernel_rfl) (by kernel_rfl) (fun _ _ _ h => h) (.inl ⟨rfl, fun _ hS => exec_load rfl rfl (load_u16 _ _ _ _ hS.2.1)⟩) S0 ?_
            simp only [List.getElem_toArray, List.getElem_cons_succ, List.getElem_cons_zero, Act.put, List.setIfInBounds_toArray, List.set_cons_succ, List.set_cons_zero]
            refine wpAnyH_take (i := 6) (v := (.pointer (some ⟨q, 2, none⟩))) rfl (by kernel_rfl) (by kernel_rfl) (by kernel_rfl) (fun _ _ _ h => h) (.inl ⟨rfl, fun _ hS => by simp [execOp, go_sem, Act.eval]⟩) S0 ?_
            simp only [List.getElem_toArray, List.getElem_cons_succ, List.getElem_cons_zero, Act.put, List.setIfInBounds_toArray, List.set_cons_succ, List.set_cons_zero]
            refine wpAnyH_take (i := 7) (v := (.int .u8 A.sb)) rfl (by kernel_rfl) (by kernel_rfl) (by kernel_rfl) (fun _ _ _ h => h) (.inl ⟨rfl, fun _ hS => exec_load rfl rfl (load_u8 _ _ _ _ hS.2.2.1)⟩) S0 ?_
            simp only [List.getElem_toArray, List.getElem_cons_succ, List.getElem_cons_zero, Act.put, List.setIfInBounds_toArray, List.set_cons_succ, List.set_cons_zero]
            refine wpAnyH_take (i := 9) (v := (.pointer (some ⟨q, 3, none⟩))) rfl (by kernel_rfl) (by kernel_rfl) (by kernel_rfl) (fun _ _ _ h => h) (.inl ⟨rfl, fun _ hS => by simp [execOp, go_sem, Act.eval]⟩) S0 ?_
            simp only [List.getElem_toArray, List.getElem_cons_succ, List.getElem_cons_zero, Act.put, List.setIfInBounds_toArray, List.set_cons_succ, List.set_cons_zero]
            refine wpAnyH_take (i := 10) (v := (.slice aob A.bl.length cpb)) rfl (by kernel_rfl) (by kernel_rfl) (by kernel_rfl) (fun _ _ _ h => h) (.inl ⟨rfl, fun _ hS => exec_load rfl rfl (load_bytes _ _ _ _ _ _ hS.2.2.2)⟩) S0 ?_
            simp only [List.getElem_toArray, List.getElem_cons_succ, List.getElem_cons_zero, Act.put, List.setIfInBounds_toArray, List.set_cons_succ, List.set_cons_zero]
            refine wpAnyH_take (i := 13) (v := (.pointer (some ⟨D2, 0, none⟩))) rfl (by kernel_rfl) (by kernel_rfl) (by kernel_rfl) (fun _ _ _ h => h) (.inl ⟨rfl, fun _ hS => rfl⟩) S0 ?_
            simp only [List.getElem_toArray, List.getElem_cons_succ, List.getElem_cons_zero, Act.put, List.setIfInBounds_toArray, List.set_cons_succ, List.set_cons_zero]
            refine wpAnyH_take (i := 14) (v := (.pointer (some ⟨q, 1, none⟩))) rfl (by kernel_rfl) (by kernel_rfl) (by kernel_rfl) (fun _ _ _ h => h) (.inl ⟨rfl, fun _ hS => by simp [execOp, go_sem, Act.eval]⟩) S0 ?_
            simp only [List.getElem_toArray, List.getElem_cons_succ, List.getElem_cons_zero, Act.put, List.setIfInBounds_toArray, List.set_cons_succ, List.set_cons_zero]
            refine wpAnyH_take (i := 15) (v := (.int .u16 A.ix)) rfl (by kernel_rfl) (by kernel_rfl) (by kernel_rfl) (fun _ _ _ h => h) (.inl ⟨rfl, fun _ hS => exec_load rfl rfl (load_u16 _ _ _ _ hS.2.1)⟩) S0 ?_
            simp only [List.getElem_toArray, List.getElem_cons_succ, List.getElem_cons_zero, Act.put, List.setIfInBounds_toArray, List.set_cons_succ, List.set_cons_zero]
            refine wpAnyH_take (i := 16) (v := (.pointer (some ⟨q, 2, none⟩))) rfl (by kernel_rfl) (by kernel_rfl) (by kernel_rfl) (fun _ _ _ h => h) (.inl ⟨rfl, fun _ hS => by simp [execOp, go_sem, Act.eval]⟩) S0 ?_
            simp only [List.getElem_toArray, List.getElem_cons_succ, List.getElem_cons_zero, Act.put, List.setIfInBounds_toArray, List.set_cons_succ, List.set_cons_zero]
            refine wpAnyH_take (i := 17) (v := (.int .u8 A.sb)) rfl (by kernel_rfl) (by kernel_rfl) (by kernel_rfl) (fun _ _ _ h => h) (.inl ⟨rfl, fun _ hS => exec_load rfl rfl (load_u8 _ _ _ _ hS.2.2.1)⟩) S0 ?_
            simp only [List.getElem_toArray, List.getElem_cons_succ, List.getElem_cons_zero, Act.put, List.setIfInBounds_toArray, List.set_cons_succ, List.set_cons_zero]
            refine wpAnyH_take (i := 19) (v := (.pointer (some ⟨q, 3, none⟩))) rfl (by kernel_rfl) (by kernel_rfl) (by kernel_rfl) (fun _ _ _ h => h) (.inl ⟨rfl, fun _ hS => by simp [execOp, go_sem, Act.eval]⟩) S0 ?_
            simp only [List.getElem_toArray, List.getElem_cons_succ, List.getElem_cons_zero, Act.put, List.setIfInBounds_toArray, List.set_cons_succ, List.set_cons_zero]
            refine wpAnyH_take (i := 20) (v := (.slice aob A.bl.length cpb)) rfl (by kernel_rfl) (by kernel_rfl) (by kernel_rfl) (fun _ _ _ h => h) (.inl ⟨rfl, fun _ hS => exec_load rfl rfl (load_bytes _ _ _ _ _ _ hS.2.2.2)⟩) S0 ?_
            simp only [List.getElem_toArray, List.getElem_cons_succ, List.getElem_cons_zero, Act.put, List.setIfInBounds_toArray, List.set_cons_succ, List.set_cons_zero]
            refine wpAnyH_all (rs := [8, 18]) (by kernel_rfl) (by simp) ?_
            intro k hk
            simp only [List.mem_cons, List.mem_nil_iff, or_false] at hk
            rcases hk with rfl | rfl
            · refine wpOp_run rfl rfl (wp_bs0g Try.underlying33 info5 rfl ?_)
              obtain ⟨q1, hq1⟩ : ∃ q, w3.drew.heap.size = q := ⟨_, rfl⟩
              have P11 := own_lower (own_empty w3.drew) O0.below.size
              have bb11 : Below w3.drew.heap.size w3.drew (w3.drew.alloc (.cells #[] 5)) := (Below.refl _ _).alloc (Nat.le_refl _) _
              have O11 := O0.next bb11
              have A11 : Aq q A (w3.drew.alloc (.cells #[] 5)) := (Lib.alloc_old w3.drew _ q (Array.getElem?_eq_some_iff.1 A0).1).trans A0
              rw [hq1] at P11 ⊢
              generalize w3.drew.alloc (.cells #[] 5) = w11 at *
              refine ⟨⟨O11.cX, (hAc A11).1, (hAc A11).2.1, (hAc A11).2.2⟩, ?_⟩
              simp only [List.getElem_toArray, List.getElem_cons_succ, List.getElem_cons_zero, Act.put, List.setIfInBounds_toArray, List.set_cons_succ, List.set_cons_zero]
              refine wpAnyH_all (rs := [11, 18]) (by kernel_rfl) (by simp) ?_
              intro k hk
              simp only [List.mem_cons, List.mem_nil_iff, or_false] at hk
              rcases hk with rfl | rfl
              · refine wpOp_run rfl rfl (wp_append_bytes _ _ rfl w.heap.size (.slice (some ⟨q1, 0, none⟩) 0 0) [] rfl P11 _ A.bl rfl (HBy.out.1.below O11.below) (by have := HBy.out.2; simp; omega) O11.below.size ?_)
                intro v1 w12 P12 G12 _
                rw [List.nil_append] at P12
                have O12 := O11.row8 G12 (fun b hb => own_of P11 hb)
                have A12 : Aq q A w12 := row_other G12 (fun b hb => (own_of P11 hb).2) A11 (by decide)
                refine ⟨⟨O12.cX, (hAc A12).1, (hAc A12).2.1, (hAc A12).2.2⟩, ?_⟩
                simp only [List.getElem_toArray, List.getElem_cons_succ, List.getElem_cons_zero, Act.put, List.setIfInBounds_toArray, List.set_cons_succ, List.set_cons_zero]
                refine wpAnyH_all (rs := [12, 18]) (by kernel_rfl) (by simp) ?_
                intro k hk
                simp only [List.mem_cons, List.mem_nil_iff, or_false] at hk
                rcases hk with rfl | rfl
                · refine wpOp_run rfl rfl (wp_call_fn 9 #[.pointer (some ⟨D, 0, none⟩), .int .u16 A.ix, .int .u8 A.sb, v1] (by simp [execOp, go_sem, Act.eval, resolve, invoke, enterWo]) ?_)
                  refine (Write_any O12.d1 A.ix A.sb A.hix A.hsb v1 A.bl (bytes_of_own P12)).mono ?_
                  rintro e w13 ⟨rfl, D13, K13⟩
                  have E13 := kp_dct O12.d1 O12.d2 K13 (fun b h1 h2 => O12.dis b h2 h1)
                  have X13 := kp_other O12.d1 K13 O12.pair (by decide)
                  have A13 : Aq q A w13 := kp_other O12.d1 K13 A12 (by decide)
                  have B13 := K13.below O12.below O12.below.size O12.b1
                  refine ⟨⟨Lib.cell_of_heap X13 0, (hAc A13).1, (hAc A13).2.1, (hAc A13).2.2⟩, ?_⟩
                  simp only [List.getElem_toArray, List.getElem_cons_succ, List.getElem_cons_zero, Act.put, List.setIfInBounds_toArray, List.set_cons_succ, List.set_cons_zero]
                  refine wpAnyH_all (rs := [18]) (by kernel_rfl) (by simp) ?_
                  intro k hk
                  simp only [List.mem_cons, List.mem_nil_iff, or_false] at hk
                  subst hk
                  refine wpOp_run rfl rfl (wp_bs0g Try.underlying33 info5 rfl ?_)
                  obtain ⟨q2, hq2⟩ : ∃ q, w13.heap.size = q := ⟨_, rfl⟩
                  have P14 := own_lower (own_empty w13) B13.size
                  have bb14 : Below w13.heap.size w13 (w13.alloc (.cells #[] 5)) := (Below.refl _ _).alloc (Nat.le_refl _) _
                  have D14 := D13.below bb14
                  have E14 := E13.below bb14
                  have X14 := (bb14.block X (Array.getElem?_eq_some_iff.1 X13).1).trans X13
                  have B14 := B13.trans (bb14.mono B13.size)
                  have A14 : Aq q A (w13.alloc (.cells #[] 5)) := (Lib.alloc_old w13 _ q (Array.getElem?_eq_some_iff.1 A13).1).trans A13
                  rw [hq2] at P14 ⊢
                  generalize w13.alloc (.cells #[] 5) = w14 at *
                  refine ⟨⟨Lib.cell_of_heap X14 0, (hAc A14).1, (hAc A14).2.1, (hAc A14).2.2⟩, ?_⟩
                  simp only [List.getElem_toArray, List.getElem_cons_succ, List.getElem_cons_zero, Act.put, List.setIfInBounds_toArray, List.set_cons_succ, List.set_cons_zero]
                  refine wpAnyH_all (rs := [21]) (by kernel_rfl) (by simp) ?_
                  intro k hk
                  simp only [List.mem_cons, List.mem_nil_iff, or_false] at hk
                  subst hk
                  refine wpOp_run rfl rfl (wp_append_bytes _ _ rfl w.heap.size (.slice (some ⟨q2, 0, none⟩) 0 0) [] rfl P14 _ A.bl rfl (HBy.out.1.below B14) (by have := HBy.out.2; simp; omega) B14.size ?_)
                  intro v2 w15 P15 G15 _
                  rw [List.nil_append] at P15
                  have hr15 := fun b hb => (own_of P14 (g := b) hb).2
                  have D15 := row_dct G15 hr15 (by decide) (by decide) (by decide) D14
                  have E15 := row_dct G15 hr15 (by decide) (by decide) (by decide) E14
                  have X15 := row_other G15 hr15 X14 (by decide)
                  have A15 : Aq q A w15 := row_other G15 hr15 A14 (by decide)
                  have B15 := B14.grown G15 B14.size (own_lt P14)
                  refine ⟨⟨Lib.cell_of_heap X15 0, (hAc A15).1, (hAc A15).2.1, (hAc A15).2.2⟩, ?_⟩
                  simp only [List.getElem_toArray, List.getElem_cons_succ, List.getElem_cons_zero, Act.put, List.setIfInBounds_toArray, List.set_cons_succ, List.set_cons_zero]
                  refine wpAnyH_all (rs := [22]) (by kernel_rfl) (by simp) ?_
                  intro k hk
                  simp only [List.mem_cons, List.mem_nil_iff, or_false] at hk
                  subst hk
                  refine wpOp_run rfl rfl (wp_call_fn 9 #[.pointer (some ⟨D2, 0, none⟩), .int .u16 A.ix, .int .u8 A.sb, v2] (by simp [execOp, go_sem, Act.eval, resolve, invoke, enterWo]) ?_)
                  refine (Write_any E15 A.ix A.sb A.hix A.hsb v2 A.bl (bytes_of_own P15)).mono ?_
                  rintro e wZ ⟨rfl, DZ, KZ⟩
                  rw [← HSe.out.tw.wc A.ix A.sb A.bl]
                  have OZ := Se.both O12 A.ix A.sb A.bl D13 K13 E15 D15 X15 B15 DZ KZ
                  have AZ : Aq q A wZ := kp_other E15 KZ A15 (by decide)
                  refine ⟨⟨OZ.cX, (hAc AZ).1, (hAc AZ).2.1, (hAc AZ).2.2⟩, ?_⟩
                  simp only [List.getElem_toArray, List.getElem_cons_succ, List.getElem_cons_zero, Act.put, List.setIfInBounds_toArray, List.set_cons_succ, List.set_cons_zero]
                  refine wpAnyH_take (i := 23) (v := (.bool false)) rfl (by kernel_rfl) (by kernel_rfl) (by kernel_rfl) (fun _ _ _ h => h) (.inl ⟨rfl, fun _ hS => by simp [execOp, go_sem, Act.eval]⟩) ⟨OZ.cX, (hAc AZ).1, (hAc AZ).2.1, (hAc AZ).2.2⟩ ?_
                  simp only [List.getElem_toArray, List.getElem_cons_succ, List.getElem_cons_zero, Act.put, List.setIfInBounds_toArray, List.set_cons_succ, List.set_cons_zero]
                  refine wpAnyH_done (by kernel_rfl) ?_ _
                  have HOZ := hidOf2 OZ
                  clear OZ AZ DZ KZ hAc HSe
                  generalize wrt its A.ix A.sb A.bl = jts at *
                  generalize wrt its2 A.ix A.sb A.bl = jts2 at *
                  go_wp2
                  go_roundw
                  case rel => exact ⟨k + 1, jts, jts2, by omega, by go_num, HOZ⟩
                  case measure => simp [intOf]; omega
                · refine wpOp_run rfl rfl (wp_bs0g Try.underlying33 info5 rfl ?_)
                  obtain ⟨q2, hq2⟩ : ∃ q, w12.heap.size = q := ⟨_, rfl⟩
                  have P13 := own_lower (own_empty w12) O12.below.size
                  have bb13 : Below w12.heap.size w12 (w12.alloc (.cells #[] 5)) := (Below.refl _ _).alloc (Nat.le_refl _) _
                  have O13 := O12.next bb13
                  have A13 : Aq q A (w12.alloc (.cells #[] 5)) := (Lib.alloc_old w12 _ q (Array.getElem?_eq_some_iff.1 A12).1).trans A12
                  have R13 := ownsRow_alloc P12 (.cells #[] 5)
                  rw [hq2] at P13 ⊢
                  generalize w12.alloc (.cells #[] 5) = w13 at *
                  refine ⟨⟨O13.cX, (hAc A13).1, (hAc A13).2.1, (hAc A13).2.2⟩, ?_⟩
                  simp only [List.getElem_toArray, List.getElem_cons_succ, List.getElem_cons_zero, Act.put, List.setIfInBounds_toArray, List.set_cons_succ, List.set_cons_zero]
                  refine wpAnyH_all (rs := [12]) (by kernel_rfl) (by simp) ?_
                  intro k hk
                  simp only [List.mem_cons, List.mem_nil_iff, or_false] at hk
                  subst hk
                  refine wpOp_run rfl rfl (wp_call_fn 9 #[.pointer (some ⟨D, 0, none⟩), .int .u16 A.ix, .int .u8 A.sb, v1] (by simp [execOp, go_sem, Act.eval, resolve, invoke, enterWo]) ?_)
                  refine (Write_any O13.d1 A.ix A.sb A.hix A.hsb v1 A.bl (bytes_of_own R13)).mono ?_
                  rintro e w14 ⟨rfl, D14, K14⟩
                  have E14 := kp_dct O13.d1 O13.d2 K14 (fun b h1 h2 => O13.dis b h2 h1)
                  have X14 := kp_other O13.d1 K14 O13.pair (by decide)
                  have A14 : Aq q A w14 := kp_other O13.d1 K14 A13 (by decide)
                  have B14 := K14.below O13.below O13.below.size O13.b1
                  have R14 := kp_own P13 O13.d1 K14 (by decide)
                  refine ⟨⟨Lib.cell_of_heap X14 0, (hAc A14).1, (hAc A14).2.1, (hAc A14).2.2⟩, ?_⟩
                  simp only [List.getElem_toArray, List.getElem_cons_succ, List.getElem_cons_zero, Act.put, List.setIfInBounds_toArray, List.set_cons_succ, List.set_cons_zero]
                  refine wpAnyH_all (rs := [21]) (by kernel_rfl) (by simp) ?_
                  intro k hk
                  simp only [List.mem_cons, List.mem_nil_iff, or_false] at hk
                  subst hk
                  refine wpOp_run rfl rfl (wp_append_bytes _ _ rfl w.heap.size (.slice (some ⟨q2, 0, none⟩) 0 0) [] rfl R14 _ A.bl rfl (HBy.out.1.below B14) (by have := HBy.out.2; simp; omega) B14.size ?_)
                  intro v2 w15 P15 G15 _
                  rw [List.nil_append] at P15
                  have hr15 := fun b hb => (own_of R14 (g := b) hb).2
                  have D15 := row_dct G15 hr15 (by decide) (by decide) (by decide) D14
                  have E15 := row_dct G15 hr15 (by decide) (by decide) (by decide) E14
                  have X15 := row_other G15 hr15 X14 (by decide)
                  have A15 : Aq q A w15 := row_other G15 hr15 A14 (by decide)
                  have B15 := B14.grown G15 B14.size (own_lt R14)
                  refine ⟨⟨Lib.cell_of_heap X15 0, (hAc A15).1, (hAc A15).2.1, (hAc A15).2.2⟩, ?_⟩
                  simp only [List.getElem_toArray, List.getElem_cons_succ, List.getElem_cons_zero, Act.put, List.setIfInBounds_toArray, List.set_cons_succ, List.set_cons_zero]
                  refine wpAnyH_all (rs := [22]) (by kernel_rfl) (by simp) ?_
                  intro k hk
                  simp only [List.mem_cons, List.mem_nil_iff, or_false] at hk
                  subst hk
                  refine wpOp_run rfl rfl (wp_call_fn 9 #[.pointer (some ⟨D2, 0, none⟩), .int .u16 A.ix, .int .u8 A.sb, v2] (by simp [execOp, go_sem, Act.eval, resolve, invoke, enterWo]) ?_)
                  refine (Write_any E15 A.ix A.sb A.hix A.hsb v2 A.bl (bytes_of_own P15)).mono ?_
                  rintro e wZ ⟨rfl, DZ, KZ⟩
                  rw [← HSe.out.tw.wc A.ix A.sb A.bl]
                  have OZ := Se.both O13 A.ix A.sb A.bl D14 K14 E15 D15 X15 B15 DZ KZ
                  have AZ : Aq q A wZ := kp_other E15 KZ A15 (by decide)
                  refine ⟨⟨OZ.cX, (hAc AZ).1, (hAc AZ).2.1, (hAc AZ).2.2⟩, ?_⟩
                  simp only [List.getElem_toArray, List.getElem_cons_succ, List.getElem_cons_zero, Act.put, List.setIfInBounds_toArray, List.set_cons_succ, List.set_cons_zero]
                  refine wpAnyH_take (i := 23) (v := (.bool false)) rfl (by kernel_rfl) (by kernel_rfl) (by kernel_rfl) (fun _ _ _ h => h) (.inl ⟨rfl, fun _ hS => by simp [execOp, go_sem, Act.eval]⟩) ⟨OZ.cX, (hAc AZ).1, (hAc AZ).2.1, (hAc AZ).2.2⟩ ?_
                  simp only [List.getElem_toArray, List.getElem_cons_succ, List.getElem_cons_zero, Act.put, List.setIfInBounds_toArray, List.set_cons_succ, List.set_cons_zero]
                  refine wpAnyH_done (by kernel_rfl) ?_ _
                  have HOZ := hidOf2 OZ
                  clear OZ AZ DZ KZ hAc HSe
                  generalize wrt its A.ix A.sb A.bl = jts at *
                  generalize wrt its2 A.ix A.sb A.bl = jts2 at *
                  go_wp2
                  go_roundw
                  case rel => exact ⟨k + 1, jts, jts2, by omega, by go_num, HOZ⟩
                  case measure => simp [intOf]; omega
              · refine wpOp_run rfl rfl (wp_bs0g Try.underlying33 info5 rfl ?_)
                obtain ⟨q2, hq2⟩ : ∃ q, w11.heap.size = q := ⟨_, rfl⟩
                have P12 := own_lower (own_empty w11) O11.below.size
                have bb12 : Below w11.heap.size w11 (w11.alloc (.cells #[] 5)) := (Below.refl _ _).alloc (Nat.le_refl _) _
                have O12 := O11.next bb12
                have A12 : Aq q A (w11.alloc (.cells #[] 5)) := (Lib.alloc_old w11 _ q (Array.getElem?_eq_some_iff.1 A11).1).trans A11
                have R12 := ownsRow_alloc P11 (.cells #[] 5)
                have hne : q1 ≠ q2 := by have := own_block_lt P11 q1 rfl; omega
                rw [hq2] at P12 ⊢
                generalize w11.alloc (.cells #[] 5) = w12 at *
                refine ⟨⟨O12.cX, (hAc A12).1, (hAc A12).2.1, (hAc A12).2.2⟩, ?_⟩
                simp only [List.getElem_toArray, List.getElem_cons_succ, List.getElem_cons_zero, Act.put, List.setIfInBounds_toArray, List.set_cons_succ, List.set_cons_zero]
                refine wpAnyH_all (rs := [11]) (by kernel_rfl) (by simp) ?_
                intro k hk
                simp only [List.mem_cons, List.mem_nil_iff, or_false] at hk
                subst hk
                refine wpOp_run rfl rfl (wp_append_bytes _ _ rfl w.heap.size (.slice (some ⟨q1, 0, none⟩) 0 0) [] rfl R12 _ A.bl rfl (HBy.out.1.below O12.below) (by have := HBy.out.2; simp; omega) O12.below.size ?_)
                intro v1 w13 P13 G13 _
                rw [List.nil_append] at P13
                have O13 := O12.row8 G13 (fun b hb => own_of R12 hb)
                have A13 : Aq q A w13 := row_other G13 (fun b hb => (own_of R12 hb).2) A12 (by decide)
                have R13 := own_keep P12 G13 (fun e => by simp only [Value.ownBlock, Option.some.injEq] at e; omega)
                refine ⟨⟨O13.cX, (hAc A13).1, (hAc A13).2.1, (hAc A13).2.2⟩, ?_⟩
                simp only [List.getElem_toArray, List.getElem_cons_succ, List.getElem_cons_zero, Act.put, List.setIfInBounds_toArray, List.set_cons_succ, List.set_cons_zero]
                refine wpAnyH_all (rs := [12]) (by kernel_rfl) (by simp) ?_
                intro k hk
                simp only [List.mem_cons, List.mem_nil_iff, or_false] at hk
                subst hk
                refine wpOp_run rfl rfl (wp_call_fn 9 #[.pointer (some ⟨D, 0, none⟩), .int .u16 A.ix, .int .u8 A.sb, v1] (by simp [execOp, go_sem, Act.eval, resolve, invoke, enterWo]) ?_)
                refine (Write_any O13.d1 A.ix A.sb A.hix A.hsb v1 A.bl (bytes_of_own P13)).mono ?_
                rintro e w14 ⟨rfl, D14, K14⟩
                have E14 := kp_dct O13.d1 O13.d2 K14 (fun b h1 h2 => O13.dis b h2 h1)
                have X14 := kp_other O13.d1 K14 O13.pair (by decide)
                have A14 : Aq q A w14 := kp_other O13.d1 K14 A13 (by decide)
                have B14 := K14.below O13.below O13.below.size O13.b1
                have R14 := kp_own R13 O13.d1 K14 (by decide)
                refine ⟨⟨Lib.cell_of_heap X14 0, (hAc A14).1, (hAc A14).2.1, (hAc A14).2.2⟩, ?_⟩
                simp only [List.getElem_toArray, List.getElem_cons_succ, List.getElem_cons_zero, Act.put, List.setIfInBounds_toArray, List.set_cons_succ, List.set_cons_zero]
                refine wpAnyH_all (rs := [21]) (by kernel_rfl) (by simp) ?_
                intro k hk
                simp only [List.mem_cons, List.mem_nil_iff, or_false] at hk
                subst hk
                refine wpOp_run rfl rfl (wp_append_bytes _ _ rfl w.heap.size (.slice (some ⟨q2, 0, none⟩) 0 0) [] rfl R14 _ A.bl rfl (HBy.out.1.below B14) (by have := HBy.out.2; simp; omega) B14.size ?_)
                intro v2 w15 P15 G15 _
                rw [List.nil_append] at P15
                have hr15 := fun b hb => (own_of R14 (g := b) hb).2
                have D15 := row_dct G15 hr15 (by decide) (by decide) (by decide) D14
                have E15 := row_dct G15 hr15 (by decide) (by decide) (by decide) E14
                have X15 := row_other G15 hr15 X14 (by decide)
                have A15 : Aq q A w15 := row_other G15 hr15 A14 (by decide)
                have B15 := B14.grown G15 B14.size (own_lt R14)
                refine ⟨⟨Lib.cell_of_heap X15 0, (hAc A15).1, (hAc A15).2.1, (hAc A15).2.2⟩, ?_⟩
                simp only [List.getElem_toArray, List.getElem_cons_succ, List.getElem_cons_zero, Act.put, List.setIfInBounds_toArray, List.set_cons_succ, List.set_cons_zero]
                refine wpAnyH_all (rs := [22]) (by kernel_rfl) (by simp) ?_
                intro k hk
                simp only [List.mem_cons, List.mem_nil_iff, or_false] at hk
                subst hk
                refine wpOp_run rfl rfl (wp_call_fn 9 #[.pointer (some ⟨D2, 0, none⟩), .int .u16 A.ix, .int .u8 A.sb, v2] (by simp [execOp, go_sem, Act.eval, resolve, invoke, enterWo]) ?_)
                refine (Write_any E15 A.ix A.sb A.hix A.hsb v2 A.bl (bytes_of_own P15)).mono ?_
                rintro e wZ ⟨rfl, DZ, KZ⟩
                rw [← HSe.out.tw.wc A.ix A.sb A.bl]
                have OZ := Se.both O13 A.ix A.sb A.bl D14 K14 E15 D15 X15 B15 DZ KZ
                have AZ : Aq q A wZ := kp_other E15 KZ A15 (by decide)
                refine ⟨⟨OZ.cX, (hAc AZ).1, (hAc AZ).2.1, (hAc AZ).2.2⟩, ?_⟩
                simp only [List.getElem_toArray, List.getElem_cons_succ, List.getElem_cons_zero, Act.put, List.setIfInBounds_toArray, List.set_cons_succ, List.set_cons_zero]
                refine wpAnyH_take (i := 23) (v := (.bool false)) rfl (by kernel_rfl) (by kernel_rfl) (by kernel_rfl) (fun _ _ _ h => h) (.inl ⟨rfl, fun _ hS => by simp [execOp, go_sem, Act.eval]⟩) ⟨OZ.cX, (hAc AZ).1, (hAc AZ).2.1, (hAc AZ).2.2⟩ ?_
                simp only [List.getElem_toArray, List.getElem_cons_succ, List.getElem_cons_zero, Act.put, List.setIfInBounds_toArray, List.set_cons_succ, List.set_cons_zero]
                refine wpAnyH_done (by kernel_rfl) ?_ _
                have HOZ := hidOf2 OZ
                clear OZ AZ DZ KZ hAc HSe
                generalize wrt its A.ix A.sb A.bl = jts at *
                generalize wrt its2 A.ix A.sb A.bl = jts2 at *
                go_wp2
                go_roundw
                case rel => exact ⟨k + 1, jts, jts2, by omega, by go_num, HOZ⟩
                case measure => simp [intOf]; omega
            · refine wpOp_run rfl rfl (wp_bs0g Try.underlying33 info5 rfl ?_)
              obtain ⟨q2, hq2⟩ : ∃ q, w3.drew.heap.size = q := ⟨_, rfl⟩
              have P11 := own_lower (own_empty w3.drew) O0.below.size
              have bb11 : Below w3.drew.heap.size w3.drew (w3.drew.alloc (.cells #[] 5)) := (Below.refl _ _).alloc (Nat.le_refl _) _
              have O11 := O0.next bb11
              have A11 : Aq q A (w3.drew.alloc (.cells #[] 5)) := (Lib.alloc_old w3.drew _ q (Array.getElem?_eq_some_iff.1 A0).1).trans A0
              rw [hq2] at P11 ⊢
              generalize w3.drew.alloc (.cells #[] 5) = w11 at *
              refine ⟨⟨O11.cX, (hAc A11).1, (hAc A11).2.1, (hAc A11).2.2⟩, ?_⟩
              simp only [List.getElem_toArray, List.getElem_cons_succ, List.getElem_cons_zero, Act.put, List.setIfInBounds_toArray, List.set_cons_succ, List.set_cons_zero]
              refine wpAnyH_all (rs := [8]) (by kernel_rfl) (by simp) ?_
              intro k hk
              simp only [List.mem_cons, List.mem_nil_iff, or_false] at hk
              subst hk
              refine wpOp_run rfl rfl (wp_bs0g Try.underlying33 info5 rfl ?_)
              obtain ⟨q1, hq1⟩ : ∃ q, w11.heap.size = q := ⟨_, rfl⟩
              have P12 := own_lower (own_empty w11) O11.below.size
              have bb12 : Below w11.heap.size w11 (w11.alloc (.cells #[] 5)) := (Below.refl _ _).alloc (Nat.le_refl _) _
              have O12 := O11.next bb12
              have A12 : Aq q A (w11.alloc (.cells #[] 5)) := (Lib.alloc_old w11 _ q (Array.getElem?_eq_some_iff.1 A11).1).trans A11
              have R12 := ownsRow_alloc P11 (.cells #[] 5)
              have hne : q2 ≠ q1 := by have := own_block_lt P11 q2 rfl; omega
              rw [hq1] at P12 ⊢
              generalize w11.alloc (.cells #[] 5) = w12 at *
              refine ⟨⟨O12.cX, (hAc A12).1, (hAc A12).2.1, (hAc A12).2.2⟩, ?_⟩
              simp only [List.getElem_toArray, List.getElem_cons_succ, List.getElem_cons_zero, Act.put, List.setIfInBounds_toArray, List.set_cons_succ, List.set_cons_zero]
              refine wpAnyH_all (rs := [11]) (by kernel_rfl) (by simp) ?_
              intro k hk
              simp only [List.mem_cons, List.mem_nil_iff, or_false] at hk
              subst hk
              refine wpOp_run rfl rfl (wp_append_bytes _ _ rfl w.heap.size (.slice (some ⟨q1, 0, none⟩) 0 0) [] rfl P12 _ A.bl rfl (HBy.out.1.below O12.below) (by have := HBy.out.2; simp; omega) O12.below.size ?_)
              intro v1 w13 P13 G13 _
              rw [List.nil_append] at P13
              have O13 := O12.row8 G13 (fun b hb => own_of P12 hb)
              have A13 : Aq q A w13 := row_other G13 (fun b hb => (own_of P12 hb).2) A12 (by decide)
              have R13 := own_keep R12 G13 (fun e => by simp only [Value.ownBlock, Option.some.injEq] at e; omega)
              refine ⟨⟨O13.cX, (hAc A13).1, (hAc A13).2.1, (hAc A13).2.2⟩, ?_⟩
              simp only [List.getElem_toArray, List.getElem_cons_succ, List.getElem_cons_zero, Act.put, List.setIfInBounds_toArray, List.set_cons_succ, List.set_cons_zero]
              refine wpAnyH_all (rs := [12]) (by kernel_rfl) (by simp) ?_
              intro k hk
              simp only [List.mem_cons, List.mem_nil_iff, or_false] at hk
              subst hk
              refine wpOp_run rfl rfl (wp_call_fn 9 #[.pointer (some ⟨D, 0, none⟩), .int .u16 A.ix, .int .u8 A.sb, v1] (by simp [execOp, go_sem, Act.eval, resolve, invoke, enterWo]) ?_)
              refine (Write_any O13.d1 A.ix A.sb A.hix A.hsb v1 A.bl (bytes_of_own P13)).mono ?_
              rintro e w14 ⟨rfl, D14, K14⟩
              have E14 := kp_dct O13.d1 O13.d2 K14 (fun b h1 h2 => O13.dis b h2 h1)
              have X14 := kp_other O13.d1 K14 O13.pair (by decide)
              have A14 : Aq q A w14 := kp_other O13.d1 K14 A13 (by decide)
              have B14 := K14.below O13.below O13.below.size O13.b1
              have R14 := kp_own R13 O13.d1 K14 (by decide)
              refine ⟨⟨Lib.cell_of_heap X14 0, (hAc A14).1, (hAc A14).2.1, (hAc A14).2.2⟩, ?_⟩
              simp only [List.getElem_toArray, List.getElem_cons_succ, List.getElem_cons_zero, Act.put, List.setIfInBounds_toArray, List.set_cons_succ, List.set_cons_zero]
              refine wpAnyH_all (rs := [21]) (by kernel_rfl) (by simp) ?_
              intro k hk
              simp only [List.mem_cons, List.mem_nil_iff, or_false] at hk
              subst hk
              refine wpOp_run rfl rfl (wp_append_bytes _ _ rfl w.heap.size (.slice (some ⟨q2, 0, none⟩) 0 0) [] rfl R14 _ A.bl rfl (HBy.out.1.below B14) (by have := HBy.out.2; simp; omega) B14.size ?_)
              intro v2 w15 P15 G15 _
              rw [List.nil_append] at P15
              have hr15 := fun b hb => (own_of R14 (g := b) hb).2
              have D15 := row_dct G15 hr15 (by decide) (by decide) (by decide) D14
              have E15 := row_dct G15 hr15 (by decide) (by decide) (by decide) E14
              have X15 := row_other G15 hr15 X14 (by decide)
              have A15 : Aq q A w15 := row_other G15 hr15 A14 (by decide)
              have B15 := B14.grown G15 B14.size (own_lt R14)
              refine ⟨⟨Lib.cell_of_heap X15 0, (hAc A15).1, (hAc A15).2.1, (hAc A15).2.2⟩, ?_⟩
              simp only [List.getElem_toArray, List.getElem_cons_succ, List.getElem_cons_zero, Act.put, List.setIfInBounds_toArray, List.set_cons_succ, List.set_cons_zero]
              refine wpAnyH_all (rs := [22]) (by kernel_rfl) (by simp) ?_
              intro k hk
              simp only [List.mem_cons, List.mem_nil_iff, or_false] at hk
              subst hk
              refine wpOp_run rfl rfl (wp_call_fn 9 #[.pointer (some ⟨D2, 0, none⟩), .int .u16 A.ix, .int .u8 A.sb, v2] (by simp [execOp, go_sem, Act.eval, resolve, invoke, enterWo]) ?_)
              refine (Write_any E15 A.ix A.sb A.hix A.hsb v2 A.bl (bytes_of_own P15)).mono ?_
              rintro e wZ ⟨rfl, DZ, KZ⟩
              rw [← HSe.out.tw.wc A.ix A.sb A.bl]
              have OZ := Se.both O13 A.ix A.sb A.bl D14 K14 E15 D15 X15 B15 DZ KZ
              have AZ : Aq q A wZ := kp_other E15 KZ A15 (by decide)
              refine ⟨⟨OZ.cX, (hAc AZ).1, (hAc AZ).2.1, (hAc AZ).2.2⟩, ?_⟩
              simp only [List.getElem_toArray, List.getElem_cons_succ, List.getElem_cons_zero, Act.put, List.setIfInBounds_toArray, List.set_cons_succ, List.set_cons_zero]
              refine wpAnyH_take (i := 23) (v := (.bool false)) rfl (by kernel_rfl) (by kernel_rfl) (by kernel_rfl) (fun _ _ _ h => h) (.inl ⟨rfl, fun _ hS => by simp [execOp, go_sem, Act.eval]⟩) ⟨OZ.cX, (hAc AZ).1, (hAc AZ).2.1, (hAc AZ).2.2⟩ ?_
              simp only [List.getElem_toArray, List.getElem_cons_succ, List.getElem_cons_zero, Act.put, List.setIfInBounds_toArray, List.set_cons_succ, List.set_cons_zero]
              refine wpAnyH_done (by kernel_rfl) ?_ _
              have HOZ := hidOf2 OZ
              clear OZ AZ DZ KZ hAc HSe
              generalize wrt its A.ix A.sb A.bl = jts at *
              generalize wrt its2 A.ix A.sb A.bl = jts2 at *
              go_wp2
              go_roundw
              case rel => exact ⟨k + 1, jts, jts2, by omega, by go_num, HOZ⟩
              case measure => simp [intOf]; omega
          · clear HCA HBA
            have cX := HSe.out.cX
            have hL1 := List_any HSe.out.d1
            go_wp2_with fail
            refine hL1.mono ?_
            rintro e w5 ⟨v13, rfl, W13, b5⟩
            have HSe5 := hidOf2 (HSe.out.next b5)
            have hL2 := List_any HSe5.out.d2
            have HW13a := hidOf2 W13
            clear hL1 HSe cX b5 W13
            go_wp2_with fail
            refine hL2.mono ?_
            rintro e w6 ⟨v14, rfl, W14, b6⟩
            have HSe6 := hidOf2 (HSe5.out.next b6)
            rw [← HSe6.out.tw.e] at W14
            obtain ⟨ao13, cp13, rfl⟩ := HW13a.out.shape
            obtain ⟨ao14, cp14, rfl⟩ := W14.shape
            have HW13 := hidOf2 (HW13a.out.same b6.size (fun b _ hl => b6.block b hl))
            have HW14 := hidOf2 W14
            clear hL2 HSe5 HW13a b6 W14
            obtain ⟨es, hes⟩ : ∃ es, its.map Im.e = es := ⟨_, rfl⟩
            rw [hes] at HW13 HW14
            have hel : es.length ≤ 1024 := by rw [← hes, List.length_map]; exact HSe6.out.d1.len
            simp only [hes]
            clear hes
            have h0 : Below w6.heap.size w6 w6.drew := bdr (Below.refl _ _) 1
            have O0 := HSe6.out.next h0
            have S0 := O0.cX
            go_upto_region 19 with fail
            refine wp_region_held (S := fun x => x.cell? ⟨X, 0, none⟩ = some (.pointer (some ⟨D, 0, none⟩))) (by kernel_rfl) ?_
            change wpAnyH _ _ _ _ _ _ _ _ w6.drew
            refine wpAnyH_take (i := 0) (v := (.slice ao13 es.length cp13)) rfl (by kernel_rfl) (by kernel_rfl) (by kernel_rfl) (fun _ _ _ h => h) (.inl ⟨rfl, fun _ hS => rfl⟩) S0 ?_
            simp only [List.getElem_toArray, List.getElem_cons_succ, List.getElem_cons_zero, Act.put, List.setIfInBounds_toArray, List.set_cons_succ, List.set_cons_zero]
            refine wpAnyH_take (i := 1) (v := (.int .i64 (es.length : Int))) rfl (by kernel_rfl) (by kernel_rfl) (by kernel_rfl) (fun _ _ _ h => h) (.inl ⟨rfl, fun _ hS => by simp [execOp, go_sem, Act.eval, resolve, invoke]⟩) S0 ?_
            simp only [List.getElem_toArray, List.getElem_cons_succ, List.getElem_cons_zero, Act.put, List.setIfInBounds_toArray, List.set_cons_succ, List.set_cons_zero]
            refine wpAnyH_take (i := 2) (v := (.slice ao14 es.length cp14)) rfl (by kernel_rfl) (by kernel_rfl) (by kernel_rfl) (fun _ _ _ h => h) (.inl ⟨rfl, fun _ hS => rfl⟩) S0 ?_
            simp only [List.getElem_toArray, List.getElem_cons_succ, List.getElem_cons_zero, Act.put, List.setIfInBounds_toArray, List.set_cons_succ, List.set_cons_zero]
            refine wpAnyH_take (i := 3) (v := (.int .i64 (es.length : Int))) rfl (by kernel_rfl) (by kernel_rfl) (by kernel_rfl) (fun _ _ _ h => h) (.inl ⟨rfl, fun _ hS => by simp [execOp, go_sem, Act.eval, resolve, invoke]⟩) S0 ?_
            simp only [List.getElem_toArray, List.getElem_cons_succ, List.getElem_cons_zero, Act.put, List.setIfInBounds_toArray, List.set_cons_succ, List.set_cons_zero]
            refine wpAnyH_take (i := 4) (v := (.bool false)) rfl (by kernel_rfl) (by kernel_rfl) (by kernel_rfl) (fun _ _ _ h => h) (.inl ⟨rfl, fun _ hS => by simp [execOp, go_sem, Act.eval]⟩) S0 ?_
            simp only [List.getElem_toArray, List.getElem_cons_succ, List.getElem_cons_zero, Act.put, List.setIfInBounds_toArray, List.set_cons_succ, List.set_cons_zero]
            refine wpAnyH_take (i := 5) (v := (.bool false)) rfl (by kernel_rfl) (by kernel_rfl) (by kernel_rfl) (fun _ _ _ h => h) (.inl ⟨rfl, fun _ hS => rfl⟩) S0 ?_
            simp only [List.getElem_toArray, List.getElem_cons_succ, List.getElem_cons_zero, Act.put, List.setIfInBounds_toArray, List.set_cons_succ, List.set_cons_zero]
            refine wpAnyH_take (i := 6) (v := (.pointer (some ⟨X, 0, none⟩))) rfl (by kernel_rfl) (by kernel_rfl) (by kernel_rfl) (fun _ _ _ h => h) (.inl ⟨rfl, fun _ hS => rfl⟩) S0 ?_
            simp only [List.getElem_toArray, List.getElem_cons_succ, List.getElem_cons_zero, Act.put, List.setIfInBounds_toArray, List.set_cons_succ, List.set_cons_zero]
            refine wpAnyH_take (i := 7) (v := (.pointer (some ⟨X, 0, none⟩))) rfl (by kernel_rfl) (by kernel_rfl) (by kernel_rfl) (fun _ _ _ h => h) (.inl ⟨rfl, fun _ hS => by simp [execOp, go_sem, Act.eval]⟩) S0 ?_
            simp only [List.getElem_toArray, List.getElem_cons_succ, List.getElem_cons_zero, Act.put, List.setIfInBounds_toArray, List.set_cons_succ, List.set_cons_zero]
            refine wpAnyH_take (i := 8) (v := (.pointer (some ⟨X, 0, none⟩))) rfl (by kernel_rfl) (by kernel_rfl) (by kernel_rfl) (fun _ _ _ h => h) (.inl ⟨rfl, fun _ hS => by simp [execOp, go_sem, Act.eval]⟩) S0 ?_
            simp only [List.getElem_toArray, List.getElem_cons_succ, List.getElem_cons_zero, Act.put, List.setIfInBounds_toArray, List.set_cons_succ, List.set_cons_zero]
            refine wpAnyH_take (i := 9) (v := (.pointer (some ⟨D, 0, none⟩))) rfl (by kernel_rfl) (by kernel_rfl) (by kernel_rfl) (fun _ _ _ h => h) (.inl ⟨rfl, fun _ hS => exec_load rfl rfl (load_pd _ _ _ _ hS)⟩) S0 ?_
            simp only [List.getElem_toArray, List.getElem_cons_succ, List.getElem_cons_zero, Act.put, List.setIfInBounds_toArray, List.set_cons_succ, List.set_cons_zero]
            refine wpAnyH_take (i := 12) (v := (.pointer (some ⟨D2, 0, none⟩))) rfl (by kernel_rfl) (by kernel_rfl) (by kernel_rfl) (fun _ _ _ h => h) (.inl ⟨rfl, fun _ hS => rfl⟩) S0 ?_
            simp only [List.getElem_toArray, List.getElem_cons_succ, List.getElem_cons_zero, Act.put, List.setIfInBounds_toArray, List.set_cons_succ, List.set_cons_zero]
            refine wpAnyH_all (rs := [10]) (by kernel_rfl) (by simp) ?_
            intro k hk
            simp only [List.mem_cons, List.mem_nil_iff, or_false] at hk
            subst hk
            refine wpOp_runw rfl rfl (wp_call_fn 16 #[.pointer (some ⟨D, 0, none⟩)] (by simp [execOp, go_sem, Act.eval, resolve, invoke, enterSv]) ?_)
            refine (Save_any O0.d1).mono ?_
            rintro e wA ⟨x1, rfl, P1, b1⟩
            have O1 := O0.next b1
            have hT1 := bytes_of_own P1
            have h1 := h0.trans (b1.mono h0.size)
            refine ⟨O1.cX, ?_⟩
            simp only [List.getElem_toArray, List.getElem_cons_succ, List.getElem_cons_zero, Act.put, List.setIfInBounds_toArray, List.set_cons_succ, List.set_cons_zero]
            refine wpAnyH_all (rs := [11, 13]) (by kernel_rfl) (by simp) ?_
            intro k hk
            simp only [List.mem_cons, List.mem_nil_iff, or_false] at hk
            rcases hk with rfl | rfl
            · refine wpOp_runw rfl rfl (wp_conv _ rfl _ (.string ⟨(sav its).toArray⟩) rfl hT1.text ?_)
              refine ⟨O1.cX, ?_⟩
              simp only [List.getElem_toArray, List.getElem_cons_succ, List.getElem_cons_zero, Act.put, List.setIfInBounds_toArray, List.set_cons_succ, List.set_cons_zero]
              refine wpAnyH_all (rs := [13]) (by kernel_rfl) (by simp) ?_
              intro k hk
              simp only [List.mem_cons, List.mem_nil_iff, or_false] at hk
              subst hk
              refine wpOp_runw rfl rfl (wp_call_fn 16 #[.pointer (some ⟨D2, 0, none⟩)] (by simp [execOp, go_sem, Act.eval, resolve, invoke, enterSv]) ?_)
              refine (Save_any O1.d2).mono ?_
              rintro e wB ⟨x2, rfl, P2, b2⟩
              have O2 := O1.next b2
              rw [← HSe6.out.tw.sav] at P2
              have hT2 := bytes_of_own P2
              have hT1b := hT1.below b2
              have h2 := h1.trans (b2.mono h1.size)
              refine ⟨O2.cX, ?_⟩
              simp only [List.getElem_toArray, List.getElem_cons_succ, List.getElem_cons_zero, Act.put, List.setIfInBounds_toArray, List.set_cons_succ, List.set_cons_zero]
              refine wpAnyH_all (rs := [14]) (by kernel_rfl) (by simp) ?_
              intro k hk
              simp only [List.mem_cons, List.mem_nil_iff, or_false] at hk
              subst hk
              refine wpOp_runw rfl rfl (wp_conv _ rfl _ (.string ⟨(sav its).toArray⟩) rfl hT2.text ?_)
              refine ⟨O2.cX, ?_⟩
              simp only [List.getElem_toArray, List.getElem_cons_succ, List.getElem_cons_zero, Act.put, List.setIfInBounds_toArray, List.set_cons_succ, List.set_cons_zero]
              refine wpAnyH_take (i := 15) (v := (.bool false)) rfl (by kernel_rfl) (by kernel_rfl) (by kernel_rfl) (fun _ _ _ h => h) (.inl ⟨rfl, fun _ hS => by simp [execOp, go_sem, Act.eval]⟩) O2.cX ?_
              simp only [List.getElem_toArray, List.getElem_cons_succ, List.getElem_cons_zero, Act.put, List.setIfInBounds_toArray, List.set_cons_succ, List.set_cons_zero]
              refine wpAnyH_take (i := 16) (v := (.bool false)) rfl (by kernel_rfl) (by kernel_rfl) (by kernel_rfl) (fun _ _ _ h => h) (.inl ⟨rfl, fun _ hS => by simp [execOp, go_sem, Act.eval]⟩) O2.cX ?_
              simp only [List.getElem_toArray, List.getElem_cons_succ, List.getElem_cons_zero, Act.put, List.setIfInBounds_toArray, List.set_cons_succ, List.set_cons_zero]
              refine wpAnyH_done (by kernel_rfl) ?_ _
              have HE13 := hidOf2 (HW13.out.same h2.size (fun b _ hl => h2.block b hl))
              have HE14 := hidOf2 (HW14.out.same h2.size (fun b _ hl => h2.block b hl))
              have HEB := hidOf2 O2.below
              clear O0 O1 O2 h0 h1 h2 b1 b2 P1 P2 hT1 hT2 hT1b HW13 HW14 HSe6
              go_wp2
              go_loopw [15] (fun s15 x => ∃ k : Nat, k ≤ es.length ∧ s15 = .int .i64 k ∧ Hid (Wide 14 enC x (.slice ao13 es.length cp13) es) ∧ Hid (Wide 14 enC x (.slice ao14 es.length cp14) es) ∧ Hid (Below w.heap.size w x)) (fun s15 _ => es.length - (intOf s15).toNat)
              case atStart => exact ⟨0, Nat.zero_le _, rfl, HE13, HE14, HEB⟩
              case round =>
                clear HE13 HE14 HEB
                obtain ⟨k, hk, rfl, HE13, HE14, HEB⟩ := hrel
                by_cases hkl : k < es.length
                · obtain ⟨b3, o3, c3, hv3, hb3, hR3⟩ := HE13.out.at0 k hkl
                  obtain ⟨b4, o4, c4, hv4, hb4, hR4⟩ := HE14.out.at0 k hkl
                  injection hv3 with hv3a _ hv3c
                  subst hv3a
                  subst hv3c
                  injection hv4 with hv4a _ hv4c
                  subst hv4a
                  subst hv4c
                  generalize es[k] = E8 at *
                  have hLq := Later.some wr
                  go_upto_region 24 with fail
                  refine wp_region_later (by kernel_rfl) (by kernel_rfl) ?_
                  repeat (go_big_quiet_step (fail))
                  first | (refine quiet_pure (.pointer (some ⟨b3, o3 + k * 14, none⟩)) rfl (fun w => exec_idxE rfl rfl rfl hkl w) ?_; simp only [Act.put, List.setIfInBounds_toArray, List.set_cons_succ, List.set_cons_zero]) | skip
                  refine quiet_ldE hR3 hb3 rfl _ rfl rfl ?_
                  simp only [Act.put, List.setIfInBounds_toArray, List.set_cons_succ, List.set_cons_zero]
                  repeat (go_big_quiet_step (fail))
                  first | (refine quiet_pure (.pointer (some ⟨b4, o4 + k * 14, none⟩)) rfl (fun w => exec_idxE rfl rfl rfl hkl w) ?_; simp only [Act.put, List.setIfInBounds_toArray, List.set_cons_succ, List.set_cons_zero]) | skip
                  refine quiet_ldE hR4 hb4 rfl _ rfl rfl ?_
                  simp only [Act.put, List.setIfInBounds_toArray, List.set_cons_succ, List.set_cons_zero]
                  refine quiet_neqE E8 rfl _ _ rfl rfl rfl ?_
                  simp only [Act.put, List.setIfInBounds_toArray, List.set_cons_succ, List.set_cons_zero]
                  refine wpQuiet_nil ?_
                  rintro _ ⟨x1, rfl⟩
                  have F13 := hidOf2 (HE13.out.same x1.below.size (fun b _ hl => x1.below.block b hl))
                  have F14 := hidOf2 (HE14.out.same x1.below.size (fun b _ hl => x1.below.block b hl))
                  have FB := hidOf2 (HEB.out.trans (x1.below.mono HEB.out.size))
                  clear hLq hR3 hR4 HE13 HE14 HEB hb3 hb4
                  generalize x1.now = w9 at *
                  clear x1
                  go_wp2
                  go_roundw
                  case rel => exact ⟨k + 1, by omega, by go_num, F13, F14, FB⟩
                  case measure => simp [intOf]; omega
                · have hS := hL8 wr
                  go_wp2_with fail
                  refine hS.mono ?_
                  rintro e w3 ⟨rfl, b3⟩
                  have B3 := HEB.out.trans (b3.mono HEB.out.size)
                  clear hS
                  go_wp2
                  go_ret
                  exact ⟨rfl, B3⟩
            · refine wpOp_runw rfl rfl (wp_call_fn 16 #[.pointer (some ⟨D2, 0, none⟩)] (by simp [execOp, go_sem, Act.eval, resolve, invoke, enterSv]) ?_)
              refine (Save_any O1.d2).mono ?_
              rintro e wB ⟨x2, rfl, P2, b2⟩
              have O2 := O1.next b2
              rw [← HSe6.out.tw.sav] at P2
              have hT2 := bytes_of_own P2
              have hT1b := hT1.below b2
              have h2 := h1.trans (b2.mono h1.size)
              refine ⟨O2.cX, ?_⟩
              simp only [List.getElem_toArray, List.getElem_cons_succ, List.getElem_cons_zero, Act.put, List.setIfInBounds_toArray, List.set_cons_succ, List.set_cons_zero]
              refine wpAnyH_all (rs := [11, 14]) (by kernel_rfl) (by simp) ?_
              intro k hk
              simp only [List.mem_cons, List.mem_nil_iff, or_false] at hk
              rcases hk with rfl | rfl
              · refine wpOp_runw rfl rfl (wp_conv _ rfl _ (.string ⟨(sav its).toArray⟩) rfl hT1b.text ?_)
                refine ⟨O2.cX, ?_⟩
                simp only [List.getElem_toArray, List.getElem_cons_succ, List.getElem_cons_zero, Act.put, List.setIfInBounds_toArray, List.set_cons_succ, List.set_cons_zero]
                refine wpAnyH_all (rs := [14]) (by kernel_rfl) (by simp) ?_
                intro k hk
                simp only [List.mem_cons, List.mem_nil_iff, or_false] at hk
                subst hk
                refine wpOp_runw rfl rfl (wp_conv _ rfl _ (.string ⟨(sav its).toArray⟩) rfl hT2.text ?_)
                refine ⟨O2.cX, ?_⟩
                simp only [List.getElem_toArray, List.getElem_cons_succ, List.getElem_cons_zero, Act.put, List.setIfInBounds_toArray, List.set_cons_succ, List.set_cons_zero]
                refine wpAnyH_take (i := 15) (v := (.bool false)) rfl (by kernel_rfl) (by kernel_rfl) (by kernel_rfl) (fun _ _ _ h => h) (.inl ⟨rfl, fun _ hS => by simp [execOp, go_sem, Act.eval]⟩) O2.cX ?_
                simp only [List.getElem_toArray, List.getElem_cons_succ, List.getElem_cons_zero, Act.put, List.setIfInBounds_toArray, List.set_cons_succ, List.set_cons_zero]
                refine wpAnyH_take (i := 16) (v := (.bool false)) rfl (by kernel_rfl) (by kernel_rfl) (by kernel_rfl) (fun _ _ _ h => h) (.inl ⟨rfl, fun _ hS => by simp [execOp, go_sem, Act.eval]⟩) O2.cX ?_
                simp only [List.getElem_toArray, List.getElem_cons_succ, List.getElem_cons_zero, Act.put, List.setIfInBounds_toArray, List.set_cons_succ, List.set_cons_zero]
                refine wpAnyH_done (by kernel_rfl) ?_ _
                have HE13 := hidOf2 (HW13.out.same h2.size (fun b _ hl => h2.block b hl))
                have HE14 := hidOf2 (HW14.out.same h2.size (fun b _ hl => h2.block b hl))
                have HEB := hidOf2 O2.below
                clear O0 O1 O2 h0 h1 h2 b1 b2 P1 P2 hT1 hT2 hT1b HW13 HW14 HSe6
                go_wp2
                go_loopw [15] (fun s15 x => ∃ k : Nat, k ≤ es.length ∧ s15 = .int .i64 k ∧ Hid (Wide 14 enC x (.slice ao13 es.length cp13) es) ∧ Hid (Wide 14 enC x (.slice ao14 es.length cp14) es) ∧ Hid (Below w.heap.size w x)) (fun s15 _ => es.length - (intOf s15).toNat)
                case atStart => exact ⟨0, Nat.zero_le _, rfl, HE13, HE14, HEB⟩
                case round =>
                  clear HE13 HE14 HEB
                  obtain ⟨k, hk, rfl, HE13, HE14, HEB⟩ := hrel
                  by_cases hkl : k < es.length
                  · obtain ⟨b3, o3, c3, hv3, hb3, hR3⟩ := HE13.out.at0 k hkl
                    obtain ⟨b4, o4, c4, hv4, hb4, hR4⟩ := HE14.out.at0 k hkl
                    injection hv3 with hv3a _ hv3c
                    subst hv3a
                    subst hv3c
                    injection hv4 with hv4a _ hv4c
                    subst hv4a
                    subst hv4c
                    generalize es[k] = E8 at *
                    have hLq := Later.some wr
                    go_upto_region 24 with fail
                    refine wp_region_later (by kernel_rfl) (by kernel_rfl) ?_
                    repeat (go_big_quiet_step (fail))
                    first | (refine quiet_pure (.pointer (some ⟨b3, o3 + k * 14, none⟩)) rfl (fun w => exec_idxE rfl rfl rfl hkl w) ?_; simp only [Act.put, List.setIfInBounds_toArray, List.set_cons_succ, List.set_cons_zero]) | skip
                    refine quiet_ldE hR3 hb3 rfl _ rfl rfl ?_
                    simp only [Act.put, List.setIfInBounds_toArray, List.set_cons_succ, List.set_cons_zero]
                    repeat (go_big_quiet_step (fail))
                    first | (refine quiet_pure (.pointer (some ⟨b4, o4 + k * 14, none⟩)) rfl (fun w => exec_idxE rfl rfl rfl hkl w) ?_; simp only [Act.put, List.setIfInBounds_toArray, List.set_cons_succ, List.set_cons_zero]) | skip
                    refine quiet_ldE hR4 hb4 rfl _ rfl rfl ?_
                    simp only [Act.put, List.setIfInBounds_toArray, List.set_cons_succ, List.set_cons_zero]
                    refine quiet_neqE E8 rfl _ _ rfl rfl rfl ?_
                    simp only [Act.put, List.setIfInBounds_toArray, List.set_cons_succ, List.set_cons_zero]
                    refine wpQuiet_nil ?_
                    rintro _ ⟨x1, rfl⟩
                    have F13 := hidOf2 (HE13.out.same x1.below.size (fun b _ hl => x1.below.block b hl))
                    have F14 := hidOf2 (HE14.out.same x1.below.size (fun b _ hl => x1.below.block b hl))
                    have FB := hidOf2 (HEB.out.trans (x1.below.mono HEB.out.size))
                    clear hLq hR3 hR4 HE13 HE14 HEB hb3 hb4
                    generalize x1.now = w9 at *
                    clear x1
                    go_wp2
                    go_roundw
                    case rel => exact ⟨k + 1, by omega, by go_num, F13, F14, FB⟩
                    case measure => simp [intOf]; omega
                  · have hS := hL8 wr
                    go_wp2_with fail
                    refine hS.mono ?_
                    rintro e w3 ⟨rfl, b3⟩
                    have B3 := HEB.out.trans (b3.mono HEB.out.size)
                    clear hS
                    go_wp2
                    go_ret
                    exact ⟨rfl, B3⟩
              · refine wpOp_runw rfl rfl (wp_conv _ rfl _ (.string ⟨(sav its).toArray⟩) rfl hT2.text ?_)
                refine ⟨O2.cX, ?_⟩
                simp only [List.getElem_toArray, List.getElem_cons_succ, List.getElem_cons_zero, Act.put, List.setIfInBounds_toArray, List.set_cons_succ, List.set_cons_zero]
                refine wpAnyH_all (rs := [11]) (by kernel_rfl) (by simp) ?_
                intro k hk
                simp only [List.mem_cons, List.mem_nil_iff, or_false] at hk
                subst hk
                refine wpOp_runw rfl rfl (wp_conv _ rfl _ (.string ⟨(sav its).toArray⟩) rfl hT1b.text ?_)
                refine ⟨O2.cX, ?_⟩
                simp only [List.getElem_toArray, List.getElem_cons_succ, List.getElem_cons_zero, Act.put, List.setIfInBounds_toArray, List.set_cons_succ, List.set_cons_zero]
                refine wpAnyH_take (i := 15) (v := (.bool false)) rfl (by kernel_rfl) (by kernel_rfl) (by kernel_rfl) (fun _ _ _ h => h) (.inl ⟨rfl, fun _ hS => by simp [execOp, go_sem, Act.eval]⟩) O2.cX ?_
                simp only [List.getElem_toArray, List.getElem_cons_succ, List.getElem_cons_zero, Act.put, List.setIfInBounds_toArray, List.set_cons_succ, List.set_cons_zero]
                refine wpAnyH_take (i := 16) (v := (.bool false)) rfl (by kernel_rfl) (by kernel_rfl) (by kernel_rfl) (fun _ _ _ h => h) (.inl ⟨rfl, fun _ hS => by simp [execOp, go_sem, Act.eval]⟩) O2.cX ?_
                simp only [List.getElem_toArray, List.getElem_cons_succ, List.getElem_cons_zero, Act.put, List.setIfInBounds_toArray, List.set_cons_succ, List.set_cons_zero]
                refine wpAnyH_done (by kernel_rfl) ?_ _
                have HE13 := hidOf2 (HW13.out.same h2.size (fun b _ hl => h2.block b hl))
                have HE14 := hidOf2 (HW14.out.same h2.size (fun b _ hl => h2.block b hl))
                have HEB := hidOf2 O2.below
                clear O0 O1 O2 h0 h1 h2 b1 b2 P1 P2 hT1 hT2 hT1b HW13 HW14 HSe6
                go_wp2
                go_loopw [15] (fun s15 x => ∃ k : Nat, k ≤ es.length ∧ s15 = .int .i64 k ∧ Hid (Wide 14 enC x (.slice ao13 es.length cp13) es) ∧ Hid (Wide 14 enC x (.slice ao14 es.length cp14) es) ∧ Hid (Below w.heap.size w x)) (fun s15 _ => es.length - (intOf s15).toNat)
                case atStart => exact ⟨0, Nat.zero_le _, rfl, HE13, HE14, HEB⟩
                case round =>
                  clear HE13 HE14 HEB
                  obtain ⟨k, hk, rfl, HE13, HE14, HEB⟩ := hrel
                  by_cases hkl : k < es.length
                  · obtain ⟨b3, o3, c3, hv3, hb3, hR3⟩ := HE13.out.at0 k hkl
                    obtain ⟨b4, o4, c4, hv4, hb4, hR4⟩ := HE14.out.at0 k hkl
                    injection hv3 with hv3a _ hv3c
                    subst hv3a
                    subst hv3c
                    injection hv4 with hv4a _ hv4c
                    subst hv4a
                    subst hv4c
                    generalize es[k] = E8 at *
                    have hLq := Later.some wr
                    go_upto_region 24 with fail
                    refine wp_region_later (by kernel_rfl) (by kernel_rfl) ?_
                    repeat (go_big_quiet_step (fail))
                    first | (refine quiet_pure (.pointer (some ⟨b3, o3 + k * 14, none⟩)) rfl (fun w => exec_idxE rfl rfl rfl hkl w) ?_; simp only [Act.put, List.setIfInBounds_toArray, List.set_cons_succ, List.set_cons_zero]) | skip
                    refine quiet_ldE hR3 hb3 rfl _ rfl rfl ?_
                    simp only [Act.put, List.setIfInBounds_toArray, List.set_cons_succ, List.set_cons_zero]
                    repeat (go_big_quiet_step (fail))
                    first | (refine quiet_pure (.pointer (some ⟨b4, o4 + k * 14, none⟩)) rfl (fun w => exec_idxE rfl rfl rfl hkl w) ?_; simp only [Act.put, List.setIfInBounds_toArray, List.set_cons_succ, List.set_cons_zero]) | skip
                    refine quiet_ldE hR4 hb4 rfl _ rfl rfl ?_
                    simp only [Act.put, List.setIfInBounds_toArray, List.set_cons_succ, List.set_cons_zero]
                    refine quiet_neqE E8 rfl _ _ rfl rfl rfl ?_
                    simp only [Act.put, List.setIfInBounds_toArray, List.set_cons_succ, List.set_cons_zero]
                    refine wpQuiet_nil ?_
                    rintro _ ⟨x1, rfl⟩
                    have F13 := hidOf2 (HE13.out.same x1.below.size (fun b _ hl => x1.below.block b hl))
                    have F14 := hidOf2 (HE14.out.same x1.below.size (fun b _ hl => x1.below.block b hl))
                    have FB := hidOf2 (HEB.out.trans (x1.below.mono HEB.out.size))
                    clear hLq hR3 hR4 HE13 HE14 HEB hb3 hb4
                    generalize x1.now = w9 at *
                    clear x1
                    go_wp2
                    go_roundw
                    case rel => exact ⟨k + 1, by omega, by go_num, F13, F14, FB⟩
                    case measure => simp [intOf]; omega
                  · have hS := hL8 wr
                    go_wp2_with fail
                    refine hS.mono ?_
                    rintro e w3 ⟨rfl, b3⟩
                    have B3 := HEB.out.trans (b3.mono HEB.out.size)
                    clear hS
                    go_wp2
                    go_ret
                    exact ⟨rfl, B3⟩
  · obtain rfl := HB2.out hc
    have hS := hL8 w1
    clear HG HB2
    go_wp2_with fail
    refine hS.mono ?_
    rintro e w3 ⟨rfl, b3⟩
    have B3 := B1.trans (b3.mono B1.size)
    clear hS
    go_wp2
    go_ret
    exact ⟨rfl, B3⟩
end Go.Proofs.Ytpncmkncbkombaa
