/- Contracts: the document's New. -/
import Derived.Test.YthalhidebkhclaaP3
namespace Go.Proofs.Ythalhidebkhclaa
open Go.RowKit Go.Proofs.Ty Go.Sort Go.Lib
set_option linter.unusedVariables false
set_option maxRecDepth 1000000
set_option linter.unusedSimpArgs false
theorem wide_alloc {c : Nat} {α : Type} {dec : α → List Value} {w : World} {v : Value} {l : List α} (h : Wide c dec w v l) (o : Obj) : Wide c dec (w.alloc o) v l :=
  h.same (by rw [size_alloc]; omega) (fun b _ hl => Lib.alloc_old w o b hl)
/-- An entry put among others by its place. -/
def insP : List En → En → List En
  | [], x => [x]
  | y :: r, x => if y.pl < x.pl then y :: insP r x else x :: y :: r
def insL : List En → List En → List En
  | acc, [] => acc
  | acc, e :: r => insL (insP acc e.plain) r
theorem insP_len (L : List En) (x : En) : (insP L x).length = L.length + 1 := by
  induction L with
  | nil => rfl
  | cons y r ih =>
    rw [insP]
    split
    · rw [List.length_cons, ih, List.length_cons]
    · simp
theorem insL_len (acc l : List En) : (insL acc l).length = acc.length + l.length := by
  induction l generalizing acc with
  | nil => rfl
  | cons e r ih => rw [insL, ih, insP_len, List.length_cons]; omega
theorem insL_snoc (acc l : List En) (e : En) : insL acc (l ++ [e]) = insP (insL acc l) e.plain := by
  induction l generalizing acc with
  | nil => rfl
  | cons x r ih => rw [List.cons_append, insL, insL, ih]
theorem ins_at (L : List En) (x : En) (j : Nat) (hj : j ≤ L.length) (h1 : ∀ m (hm : m < L.length), m < j → L[m].pl < x.pl) (h2 : ∀ (hm : j < L.length), ¬ L[j].pl < x.pl) : insP L x = L.take j ++ [x] ++ L.drop j := by
  induction L generalizing j with
  | nil =>
    obtain rfl : j = 0 := by simpa using hj
    rfl
  | cons y r ih =>
    match j, hj with
    | 0, _ =>
      have := h2 (by simp)
      rw [insP, if_neg (by simpa using this)]
      rfl
    | j + 1, hj =>
      have := h1 0 (by simp) (by omega)
      rw [insP, if_pos (by simpa using this), ih j (by simpa using hj) (fun m hm h => by have := h1 (m + 1) (by simpa using hm) (by omega); simpa using this) (fun hm => by have := h2 (by simpa using hm); simpa using this)]
      simp
set_option maxHeartbeats 16000000 in
theorem r8New_any (v : Value) (l : List En) (w : World) (hW : Wide 14 enC w v l) (hn : l.length ≤ 4000000000000) :
    Calls Try.prog 16 #[v] w fun x w' => Below w.heap.size w w' ∧ (chkL l ≠ 0 → x = .returned (.tuple #[.pointer none, .int .i64 (chkL l)])) ∧ (chkL l = 0 → ∃ E vL vV, x = .returned (.tuple #[.pointer (some ⟨E, 0, none⟩), .int .i64 0]) ∧ w.heap.size ≤ E ∧ Rd E (insL [] l) vL ((insL [] l).map En.df) vV w') := by
  have hC := r8Check_any v l w hW hn
  obtain ⟨ao, cp, rfl, _, hc0⟩ := hW
  have HC : Hid (∀ (wr : World), Below w.heap.size w wr → ∀ k (hk : k < l.length), ∃ b off, ao = some ⟨b, off, none⟩ ∧ b < w.heap.size ∧ wr.rangeAt b (off + k * 14) (enC l[k])) := fun wr hb k hk => Wide.at hc0 hb k hk
  clear hc0
  by_cases hc : chkL l = 0
  · have hl := (chkL_ok hc).1
    rw [hc] at hC ⊢
    clear hc
    go_enter Try.func16, Try.ntmps16
    go_wp2_with fail
    refine hC.mono ?_
    rintro x w1 ⟨rfl, b1⟩
    clear hC
    obtain ⟨E, hE⟩ : ∃ E, w1.heap.size = E := ⟨_, rfl⟩
    have hEw : w.heap.size ≤ E := by rw [← hE]; exact b1.size
    have R0 : Rd E [] (.slice none 0 0) [] (.slice none 0 0) (w1.alloc (.cells #[.slice none 0 0, .slice none 0 0] 70)) := ⟨by rw [← hE]; exact heap_alloc_new _ _, RT.nil _ _ _ _, RT.nil _ _ _ _⟩
    have B0 := b1.alloc b1.size (.cells #[.slice none 0 0, .slice none 0 0] 70)
    have HR0 := hidOf2 R0
    have HB0 := hidOf2 B0
    clear R0 B0 b1
    go_wp2
    go_loopw [6] (fun i x => ∃ (k : Nat) (vL : Value), k ≤ l.length ∧ i = .int .i64 k ∧ Hid (Rd E (insL [] (l.take k)) vL [] (.slice none 0 0) x) ∧ Hid (Below w.heap.size w x)) (fun i _ => l.length - (intOf i).toNat)
    case atStart => exact ⟨0, _, Nat.zero_le _, rfl, HR0, HB0⟩
    case round =>
      clear HR0 HB0
      obtain ⟨k, vL, hk, rfl, HR, HB⟩ := hrel
      by_cases hkl : k < l.length
      · obtain ⟨b, off, rfl, hb, hR⟩ := HC.out wr HB.out k hkl
        have HI := hidOf2 (show insL [] (l.take (k + 1)) = insP (insL [] (l.take k)) l[k].plain by rw [List.take_succ_eq_append_getElem hkl, insL_snoc])
        have hLk : (insL [] (l.take k)).length ≤ 1024 := by rw [insL_len, List.length_take]; simp; omega
        generalize l[k] = e at *
        generalize insL [] (l.take k) = L at *
        obtain ⟨aL, cL, rfl⟩ := HR.out.rowL.wide.shape
        obtain ⟨q, hq⟩ : ∃ q, wr.heap.size = q := ⟨_, rfl⟩
        have hh : (wr.alloc (.cells #[.int .u16 0, .int .u8 0, .int .i64 0, .bool false, .bool false, .int .i64 0, .int .u64 0, .string ⟨#[]⟩, .int .i64 0, .int .u64 0, .string ⟨#[]⟩, .int .i64 0, .int .u64 0, .string ⟨#[]⟩] 59)).heap[q]? = some (.cells #[.int .u16 0, .int .u8 0, .int .i64 0, .bool false, .bool false, .int .i64 0, .int .u64 0, .string ⟨#[]⟩, .int .i64 0, .int .u64 0, .string ⟨#[]⟩, .int .i64 0, .int .u64 0, .string ⟨#[]⟩] 59 (0, 0)) := by rw [← hq]; exact heap_alloc_new _ _
        have hE1 := Eb.row hh e
        have BA : Below wr.heap.size wr (wr.alloc (.cells #[.int .u16 0, .int .u8 0, .int .i64 0, .bool false, .bool false, .int .i64 0, .int .u64 0, .string ⟨#[]⟩, .int .i64 0, .int .u64 0, .string ⟨#[]⟩, .int .i64 0, .int .u64 0, .string ⟨#[]⟩] 59)) := (Below.refl _ _).alloc (Nat.le_refl _) _
        have BB := below_row BA (by rw [← hq]; exact Nat.le_refl _) (by rw [size_alloc]; omega) (q := q) e.arr
        go_upto_region 9 with (first | (refine ldE hR rfl _ rfl rfl ?_) | (refine sdE hh rfl e rfl _ _ rfl rfl rfl ?_))
        try simp only [hq]
        generalize ((wr.alloc (.cells #[.int .u16 0, .int .u8 0, .int .i64 0, .bool false, .bool false, .int .i64 0, .int .u64 0, .string ⟨#[]⟩, .int .i64 0, .int .u64 0, .string ⟨#[]⟩, .int .i64 0, .int .u64 0, .string ⟨#[]⟩] 59)).setRow q e.arr) = W1 at *
        clear hh BA hR hb
        have r1 := hE1.r11
        have hPl := r7Plain_v e.df W1
        go_wp2_with (first | (refine ldV r1 rfl _ rfl rfl ?_))
        refine hPl.mono ?_
        rintro x w2 ⟨rfl, b2⟩
        have hE2 := hE1.below b2
        have BC := BB.trans (b2.mono BB.size)
        clear hE1 b2 r1 hPl BB
        have ht := hE2.there
        have hE3 := hE2.setdf
        have BD : Below wr.heap.size wr (w2.setCells q 11 (vlC e.plain.df)) := BC.grown (setCells_kept w2 q 11 _) BC.size (fun j hj => by cases hj; omega)
        go_wp2_with (first | (refine sdV ht e.plain.df rfl _ _ rfl rfl rfl ?_))
        generalize (w2.setCells q 11 (vlC e.plain.df)) = W3 at *
        have HRW : Hid (∀ x, Below W3.heap.size W3 x → Rd E L (.slice aL L.length cL) [] (.slice none 0 0) x ∧ Eb q e.plain x ∧ Below w.heap.size w x) := fun x hb => ⟨(HR.out.below BD).below hb, hE3.below hb, (HB.out.trans (BD.mono HB.out.size)).trans (hb.mono (Nat.le_trans HB.out.size BD.size))⟩
        generalize e.plain = X at *
        clear hE2 hE3 BC BD ht HR HB
        simp only [Act.put]
        go_loopw [8] (fun i x => ∃ j : Nat, j ≤ L.length ∧ i = .int .i64 j ∧ Hid (∀ m (hm : m < L.length), m < j → L[m].pl < X.pl) ∧ Hid (Below W3.heap.size W3 x)) (fun i _ => L.length - (intOf i).toNat)
        case atStart => exact ⟨0, Nat.zero_le _, rfl, fun m _ h => by omega, Below.refl _ _⟩
        case round =>
          obtain ⟨j, hj, rfl, HJ, HBx⟩ := hrel
          obtain ⟨RX, EX, BX⟩ := HRW.out wr HBx.out
          have k0 : ∀ x : Later wr, x.now.cell? ⟨E, 0, none⟩ = some (.slice aL L.length cL) := fun x => (RX.below x.below).c.1
          have hLw := Later.some wr
          by_cases hjl : j < L.length
          · obtain ⟨lb, lo, lc, hv, hlb, hRj⟩ := RX.rowL.wide.at0 j hjl
            injection hv with hv1 _ hv3
            subst hv1
            subst hv3
            have hp1 := r8place_any L[j]
            have hp2 := r8place_any X
            have rX := EX.r0
            have lX := EX.lt
            have HJ1 : Hid (L[j].pl < X.pl → ∀ m (hm : m < L.length), m < j + 1 → L[m].pl < X.pl) := fun h m hm h1 => by
              rcases Nat.lt_or_ge m j with h3 | h3
              · exact HJ.out m hm h3
              · have : m = j := by omega
                subst this; exact h
            have HJ2 : Hid (¬ L[j].pl < X.pl → insP L X = L.take j ++ [X] ++ L.drop j) := fun h => ins_at L X j hj HJ.out (fun _ => h)
            generalize L[j] = Y at *
            clear HJ
            by_cases hlt : Y.pl < X.pl
            · have d1 : decide ((Y.pl : Int) < (X.pl : Int)) = true := by simp; omega
              have HJ3 := hidOf2 (HJ1.out hlt)
              clear HJ1 HJ2
              go_upto_region 10 with fail
              refine wp_region_later (by kernel_rfl) (by kernel_rfl) ?_
              repeat (go_big_quiet_step (fail))
              refine quiet_ldE hRj hlb rfl _ rfl rfl ?_
              simp only [Act.put, List.setIfInBounds_toArray, List.set_cons_succ, List.set_cons_zero]
              go_big_quiet_step (first | (go_at_call 31; with_reducible exact later (hp1 _)))
              refine quiet_ldE rX lX rfl _ rfl rfl ?_
              simp only [Act.put, List.setIfInBounds_toArray, List.set_cons_succ, List.set_cons_zero]
              repeat (go_big_quiet_step (first | (go_at_call 31; with_reducible exact later (hp2 _))))
              refine wpQuiet_nil ?_
              rintro _ ⟨x1, rfl⟩
              have HB4 := hidOf2 (HBx.out.trans (x1.below.mono HBx.out.size))
              clear k0 hLw hRj rX RX EX BX HBx
              generalize x1.now = w5 at *
              clear x1
              go_wp2
              go_roundw
              case rel => exact ⟨j + 1, by omega, by go_num, HJ3, HB4⟩
              case measure => simp [intOf]; omega
            · have d1 : decide ((Y.pl : Int) < (X.pl : Int)) = false := by simp; omega
              have HINS := hidOf2 (HJ2.out hlt)
              clear HJ1 HJ2
              go_upto_region 10 with fail
              refine wp_region_later (by kernel_rfl) (by kernel_rfl) ?_
              repeat (go_big_quiet_step (fail))
              refine quiet_ldE hRj hlb rfl _ rfl rfl ?_
              simp only [Act.put, List.setIfInBounds_toArray, List.set_cons_succ, List.set_cons_zero]
              go_big_quiet_step (first | (go_at_call 31; with_reducible exact later (hp1 _)))
              refine quiet_ldE rX lX rfl _ rfl rfl ?_
              simp only [Act.put, List.setIfInBounds_toArray, List.set_cons_succ, List.set_cons_zero]
              repeat (go_big_quiet_step (first | (go_at_call 31; with_reducible exact later (hp2 _))))
              refine wpQuiet_nil ?_
              rintro _ ⟨x1, rfl⟩
              obtain ⟨Rk, Ek, Bk⟩ := HRW.out _ (HBx.out.trans (x1.below.mono HBx.out.size))
              clear k0 hLw RX EX BX HBx HRW
              generalize x1.now = wk at *
              clear x1
              have HBk := hidOf2 Bk
              have HRd : Hid (∀ x, Below wk.heap.size wk x → Rd E L _ [] (.slice none 0 0) x) := fun x hb => Rk.below hb
              have SS : Hid (∀ x, Below wk.heap.size wk x → x.cell? ⟨E, 0, none⟩ = some _ ∧ x.rangeAt q 0 (enC X)) := fun x hb => ⟨(Rk.below hb).c.1, (Ek.below hb).r0⟩
              obtain ⟨v1, hs1, hw1⟩ := re_take Rk.rowL j hj
              obtain ⟨v2, hs2, hw2⟩ := re_drop Rk.rowL j hj
              have b0 : Below wk.heap.size wk wk.drew := bdr (Below.refl _ _) 1
              have S0 := SS.out _ b0
              clear Rk Ek Bk
              go_upto_region 12 with fail
              refine wp_region_held (S := fun x => x.cell? ⟨E, 0, none⟩ = some (.slice (some ⟨lb, lo, none⟩) L.length cL) ∧ x.rangeAt q 0 (enC X)) (by kernel_rfl) ?_
              change wpAnyH _ _ _ _ _ _ _ _ wk.drew
              refine wpAnyH_take (i := 1) (v := (.pointer (some ⟨E, 0, none⟩))) rfl (by kernel_rfl) (by kernel_rfl) (by kernel_rfl) (fun _ _ _ h => h) (.inl ⟨rfl, fun _ hS => rfl⟩) S0 ?_
              simp only [List.getElem_toArray, List.getElem_cons_succ, List.getElem_cons_zero, Act.put, List.setIfInBounds_toArray, List.set_cons_succ, List.set_cons_zero]
              refine wpAnyH_take (i := 2) (v := (.pointer (some ⟨E, 0, none⟩))) rfl (by kernel_rfl) (by kernel_rfl) (by kernel_rfl) (fun _ _ _ h => h) (.inl ⟨rfl, fun _ hS => by simp [execOp, go_sem, Act.eval]⟩) S0 ?_
              simp only [List.getElem_toArray, List.getElem_cons_succ, List.getElem_cons_zero, Act.put, List.setIfInBounds_toArray, List.set_cons_succ, List.set_cons_zero]
              refine wpAnyH_take (i := 3) (v := (.pointer (some ⟨E, 0, none⟩))) rfl (by kernel_rfl) (by kernel_rfl) (by kernel_rfl) (fun _ _ _ h => h) (.inl ⟨rfl, fun _ hS => by simp [execOp, go_sem, Act.eval]⟩) S0 ?_
              simp only [List.getElem_toArray, List.getElem_cons_succ, List.getElem_cons_zero, Act.put, List.setIfInBounds_toArray, List.set_cons_succ, List.set_cons_zero]
              refine wpAnyH_take (i := 4) (v := (.slice (some ⟨lb, lo, none⟩) L.length cL)) rfl (by kernel_rfl) (by kernel_rfl) (by kernel_rfl) (fun _ _ _ h => h) (.inl ⟨rfl, fun _ hS => exec_load rfl rfl (load_ents _ _ _ _ _ _ hS.1)⟩) S0 ?_
              simp only [List.getElem_toArray, List.getElem_cons_succ, List.getElem_cons_zero, Act.put, List.setIfInBounds_toArray, List.set_cons_succ, List.set_cons_zero]
              refine wpAnyH_take (i := 5) (v := (.int .i64 (j : Int))) rfl (by kernel_rfl) (by kernel_rfl) (by kernel_rfl) (fun _ _ _ h => h) (.inl ⟨rfl, fun _ hS => rfl⟩) S0 ?_
              simp only [List.getElem_toArray, List.getElem_cons_succ, List.getElem_cons_zero, Act.put, List.setIfInBounds_toArray, List.set_cons_succ, List.set_cons_zero]
              refine wpAnyH_take (i := 6) (v := (v1)) rfl (by kernel_rfl) (by kernel_rfl) (by kernel_rfl) (fun _ _ _ h => h) (.inl ⟨rfl, fun _ hS => by simp [execOp, go_sem, Act.eval, hs1]⟩) S0 ?_
              simp only [List.getElem_toArray, List.getElem_cons_succ, List.getElem_cons_zero, Act.put, List.setIfInBounds_toArray, List.set_cons_succ, List.set_cons_zero]
              refine wpAnyH_take (i := 8) (v := (.agg X.arr)) rfl (by kernel_rfl) (by kernel_rfl) (by kernel_rfl) (fun _ _ _ h => h) (.inl ⟨rfl, fun _ hS => exec_load rfl rfl (run_ldE hS.2)⟩) S0 ?_
              simp only [List.getElem_toArray, List.getElem_cons_succ, List.getElem_cons_zero, Act.put, List.setIfInBounds_toArray, List.set_cons_succ, List.set_cons_zero]
              refine wpAnyH_all (rs := [0, 9]) (by kernel_rfl) (by simp) ?_
              intro k hk
              simp only [List.mem_cons, List.mem_nil_iff, or_false] at hk
              rcases hk with rfl | rfl
              · refine wpOp_run rfl rfl (wp_bs0g Try.underlying22 infoEz rfl ?_)
                have b1 := b0.alloc b0.size (.cells #[] 59)
                have P1 : (wk.drew.alloc (.cells #[] 59)).ownsRow wk.heap.size 59 14 (.slice (some ⟨wk.drew.heap.size, 0, none⟩) 0 0) ([] : List En).length (flatW DE []) := own_lower (own0E wk.drew) b0.size
                refine ⟨(SS.out _ b1), ?_⟩
                simp only [List.getElem_toArray, List.getElem_cons_succ, List.getElem_cons_zero, Act.put, List.setIfInBounds_toArray, List.set_cons_succ, List.set_cons_zero]
                refine wpAnyH_all (rs := [7, 9]) (by kernel_rfl) (by simp) ?_
                intro k hk
                simp only [List.mem_cons, List.mem_nil_iff, or_false] at hk
                rcases hk with rfl | rfl
                · refine wpOp_run rfl rfl (wp_append_wide DE _ _ 22 59 _ 120 Try.underlying22 infoEz rfl rfl wk.heap.size (.slice (some ⟨wk.drew.heap.size, 0, none⟩) 0 0) [] rfl P1 _ (L.take j) rfl (hw1 _ (HRd.out _ b1).rowL.wide) (by unfold maxLen; simp; omega) (by simp; omega) b1.size ?_)
                  intro v2 w2 P2 G2
                  rw [List.nil_append] at P2
                  have b2 := b1.grown G2 b1.size (own_lt P1)
                  refine ⟨(SS.out _ b2), ?_⟩
                  simp only [List.getElem_toArray, List.getElem_cons_succ, List.getElem_cons_zero, Act.put, List.setIfInBounds_toArray, List.set_cons_succ, List.set_cons_zero]
                  refine wpAnyH_all (rs := [9]) (by kernel_rfl) (by simp) ?_
                  intro k hk
                  simp only [List.mem_cons, List.mem_nil_iff, or_false] at hk
                  subst hk
                  refine wpOp_run rfl rfl (wp_bs1 DE X 22 59 _ 120 _ rfl rfl Try.underlying22 infoEz (by decide) ?_)
                  have b3 := b2.alloc b2.size (.cells (enC X).toArray 59)
                  have Q3 := wide_new DE w2 X 59
                  have P3 := ownsRow_alloc P2 (.cells (enC X).toArray 59)
                  refine ⟨(SS.out _ b3), ?_⟩
                  simp only [List.getElem_toArray, List.getElem_cons_succ, List.getElem_cons_zero, Act.put, List.setIfInBounds_toArray, List.set_cons_succ, List.set_cons_zero]
                  refine wpAnyH_all (rs := [10]) (by kernel_rfl) (by simp) ?_
                  intro k hk
                  simp only [List.mem_cons, List.mem_nil_iff, or_false] at hk
                  subst hk
                  refine wpOp_run rfl rfl (wp_append_wide DE _ _ 22 59 _ 120 Try.underlying22 infoEz rfl rfl wk.heap.size _ (L.take j) rfl P3 _ [X] rfl Q3 (by unfold maxLen; simp; omega) (by simp; omega) b3.size ?_)
                  intro vZ wZ PZ GZ
                  have bZ := b3.grown GZ b3.size (own_lt P3)
                  refine ⟨(SS.out _ bZ), ?_⟩
                  simp only [List.getElem_toArray, List.getElem_cons_succ, List.getElem_cons_zero, Act.put, List.setIfInBounds_toArray, List.set_cons_succ, List.set_cons_zero]
                  refine wpAnyH_take (i := 11) (v := (vZ)) rfl (by kernel_rfl) (by kernel_rfl) (by kernel_rfl) (fun _ _ _ h => h) (.inl ⟨rfl, fun _ hS => rfl⟩) (SS.out _ bZ) ?_
                  simp only [List.getElem_toArray, List.getElem_cons_succ, List.getElem_cons_zero, Act.put, List.setIfInBounds_toArray, List.set_cons_succ, List.set_cons_zero]
                  refine wpAnyH_done (by kernel_rfl) ?_ _
                  have HPZ := hidOf2 PZ
                  have HbZ := hidOf2 bZ
                  clear PZ GZ bZ SS S0
                  have RZ := HRd.out _ HbZ.out
                  have cZ0 := RZ.c.1
                  have hWd := hw2 _ RZ.rowL.wide
                  have hPZ := HPZ.out
                  clear RZ
                  go_wp2_with (first | (refine apE rfl _ _ rfl wk.heap.size vZ (L.take j ++ [X]) rfl hPZ _ (L.drop j) rfl hWd (by simp; omega) HbZ.out.size ?_; intro vY wY PY GY; have bY := HbZ.out.grown GY HbZ.out.size (own_lt hPZ); have RY := HRd.out _ bY; have cY := RY.c.1; have fY := RY.frozen 0; obtain ⟨aY, cpY, hvY⟩ := own_shape5 PY; obtain ⟨nY, hnY⟩ : ∃ n, (L.take j ++ [X] ++ L.drop j).length = n := ⟨_, rfl⟩; rw [hnY] at hvY; subst hvY; have HRn := hidOf2 (RY.setL (RT.own DE PY)); have HBn := hidOf2 ((HBk.out.trans (bY.mono HBk.out.size)).grown (set_kept wY E 0 (.slice aY nY cpY)) (Nat.le_trans HBk.out.size bY.size) (fun j hj => by cases hj; exact hEw)); clear PY GY bY RY))
                  go_roundw
                  case rel => exact ⟨k + 1, _, by omega, by go_num, by rw [HI.out, HINS.out]; exact HRn, HBn⟩
                  case measure => simp [intOf]; omega
                · refine wpOp_run rfl rfl (wp_bs1 DE X 22 59 _ 120 _ rfl rfl Try.underlying22 infoEz (by decide) ?_)
                  have b2 := b1.alloc b1.size (.cells (enC X).toArray 59)
                  have Q2 := wide_new DE (wk.drew.alloc (.cells #[] 59)) X 59
                  have P2 := ownsRow_alloc P1 (.cells (enC X).toArray 59)
                  refine ⟨(SS.out _ b2), ?_⟩
                  simp only [List.getElem_toArray, List.getElem_cons_succ, List.getElem_cons_zero, Act.put, List.setIfInBounds_toArray, List.set_cons_succ, List.set_cons_zero]
                  refine wpAnyH_all (rs := [7]) (by kernel_rfl) (by simp) ?_
                  intro k hk
                  simp only [List.mem_cons, List.mem_nil_iff, or_false] at hk
                  subst hk
                  refine wpOp_run rfl rfl (wp_append_wide DE _ _ 22 59 _ 120 Try.underlying22 infoEz rfl rfl wk.heap.size (.slice (some ⟨wk.drew.heap.size, 0, none⟩) 0 0) [] rfl P2 _ (L.take j) rfl (hw1 _ (HRd.out _ b2).rowL.wide) (by unfold maxLen; simp; omega) (by simp; omega) b2.size ?_)
                  intro v3 w3 P3 G3
                  rw [List.nil_append] at P3
                  have b3 := b2.grown G3 b2.size (own_lt P2)
                  have Q3 := Wide.same Q2 G3.size (fun b hb hl => G3.block b hl (fun e => by simp only [Value.ownBlock, Option.some.injEq, size_alloc] at hb e; omega))
                  refine ⟨(SS.out _ b3), ?_⟩
                  simp only [List.getElem_toArray, List.getElem_cons_succ, List.getElem_cons_zero, Act.put, List.setIfInBounds_toArray, List.set_cons_succ, List.set_cons_zero]
                  refine wpAnyH_all (rs := [10]) (by kernel_rfl) (by simp) ?_
                  intro k hk
                  simp only [List.mem_cons, List.mem_nil_iff, or_false] at hk
                  subst hk
                  refine wpOp_run rfl rfl (wp_append_wide DE _ _ 22 59 _ 120 Try.underlying22 infoEz rfl rfl wk.heap.size _ (L.take j) rfl P3 _ [X] rfl Q3 (by unfold maxLen; simp; omega) (by simp; omega) b3.size ?_)
                  intro vZ wZ PZ GZ
                  have bZ := b3.grown GZ b3.size (own_lt P3)
                  refine ⟨(SS.out _ bZ), ?_⟩
                  simp only [List.getElem_toArray, List.getElem_cons_succ, List.getElem_cons_zero, Act.put, List.setIfInBounds_toArray, List.set_cons_succ, List.set_cons_zero]
                  refine wpAnyH_take (i := 11) (v := (vZ)) rfl (by kernel_rfl) (by kernel_rfl) (by kernel_rfl) (fun _ _ _ h => h) (.inl ⟨rfl, fun _ hS => rfl⟩) (SS.out _ bZ) ?_
                  simp only [List.getElem_toArray, List.getElem_cons_succ, List.getElem_cons_zero, Act.put, List.setIfInBounds_toArray, List.set_cons_succ, List.set_cons_zero]
                  refine wpAnyH_done (by kernel_rfl) ?_ _
                  have HPZ := hidOf2 PZ
                  have HbZ := hidOf2 bZ
                  clear PZ GZ bZ SS S0
                  have RZ := HRd.out _ HbZ.out
                  have cZ0 := RZ.c.1
                  have hWd := hw2 _ RZ.rowL.wide
                  have hPZ := HPZ.out
                  clear RZ
                  go_wp2_with (first | (refine apE rfl _ _ rfl wk.heap.size vZ (L.take j ++ [X]) rfl hPZ _ (L.drop j) rfl hWd (by simp; omega) HbZ.out.size ?_; intro vY wY PY GY; have bY := HbZ.out.grown GY HbZ.out.size (own_lt hPZ); have RY := HRd.out _ bY; have cY := RY.c.1; have fY := RY.frozen 0; obtain ⟨aY, cpY, hvY⟩ := own_shape5 PY; obtain ⟨nY, hnY⟩ : ∃ n, (L.take j ++ [X] ++ L.drop j).length = n := ⟨_, rfl⟩; rw [hnY] at hvY; subst hvY; have HRn := hidOf2 (RY.setL (RT.own DE PY)); have HBn := hidOf2 ((HBk.out.trans (bY.mono HBk.out.size)).grown (set_kept wY E 0 (.slice aY nY cpY)) (Nat.le_trans HBk.out.size bY.size) (fun j hj => by cases hj; exact hEw)); clear PY GY bY RY))
                  go_roundw
                  case rel => exact ⟨k + 1, _, by omega, by go_num, by rw [HI.out, HINS.out]; exact HRn, HBn⟩
                  case measure => simp [intOf]; omega
              · refine wpOp_run rfl rfl (wp_bs1 DE X 22 59 _ 120 _ rfl rfl Try.underlying22 infoEz (by decide) ?_)
                have b1 := b0.alloc b0.size (.cells (enC X).toArray 59)
                have Q1 := wide_new DE wk.drew X 59
                refine ⟨(SS.out _ b1), ?_⟩
                simp only [List.getElem_toArray, List.getElem_cons_succ, List.getElem_cons_zero, Act.put, List.setIfInBounds_toArray, List.set_cons_succ, List.set_cons_zero]
                refine wpAnyH_all (rs := [0]) (by kernel_rfl) (by simp) ?_
                intro k hk
                simp only [List.mem_cons, List.mem_nil_iff, or_false] at hk
                subst hk
                refine wpOp_run rfl rfl (wp_bs0g Try.underlying22 infoEz rfl ?_)
                have b2 := b1.alloc b1.size (.cells #[] 59)
                have P2 : ((wk.drew.alloc (.cells (enC X).toArray 59)).alloc (.cells #[] 59)).ownsRow wk.heap.size 59 14 (.slice (some ⟨(wk.drew.alloc (.cells (enC X).toArray 59)).heap.size, 0, none⟩) 0 0) ([] : List En).length (flatW DE []) := own_lower (own0E (wk.drew.alloc (.cells (enC X).toArray 59))) b1.size
                have Q2 := wide_alloc Q1 (.cells #[] 59)
                refine ⟨(SS.out _ b2), ?_⟩
                simp only [List.getElem_toArray, List.getElem_cons_succ, List.getElem_cons_zero, Act.put, List.setIfInBounds_toArray, List.set_cons_succ, List.set_cons_zero]
                refine wpAnyH_all (rs := [7]) (by kernel_rfl) (by simp) ?_
                intro k hk
                simp only [List.mem_cons, List.mem_nil_iff, or_false] at hk
                subst hk
                refine wpOp_run rfl rfl (wp_append_wide DE _ _ 22 59 _ 120 Try.underlying22 infoEz rfl rfl wk.heap.size (.slice (some ⟨(wk.drew.alloc (.cells (enC X).toArray 59)).heap.size, 0, none⟩) 0 0) [] rfl P2 _ (L.take j) rfl (hw1 _ (HRd.out _ b2).rowL.wide) (by unfold maxLen; simp; omega) (by simp; omega) b2.size ?_)
                intro v3 w3 P3 G3
                rw [List.nil_append] at P3
                have b3 := b2.grown G3 b2.size (own_lt P2)
                have Q3 := Wide.same Q2 G3.size (fun b hb hl => G3.block b hl (fun e => by simp only [Value.ownBlock, Option.some.injEq, size_alloc] at hb e; omega))
                refine ⟨(SS.out _ b3), ?_⟩
                simp only [List.getElem_toArray, List.getElem_cons_succ, List.getElem_cons_zero, Act.put, List.setIfInBounds_toArray, List.set_cons_succ, List.set_cons_zero]
                refine wpAnyH_all (rs := [10]) (by kernel_rfl) (by simp) ?_
                intro k hk
                simp only [List.mem_cons, List.mem_nil_iff, or_false] at hk
                subst hk
                refine wpOp_run rfl rfl (wp_append_wide DE _ _ 22 59 _ 120 Try.underlying22 infoEz rfl rfl wk.heap.size _ (L.take j) rfl P3 _ [X] rfl Q3 (by unfold maxLen; simp; omega) (by simp; omega) b3.size ?_)
                intro vZ wZ PZ GZ
                have bZ := b3.grown GZ b3.size (own_lt P3)
                refine ⟨(SS.out _ bZ), ?_⟩
                simp only [List.getElem_toArray, List.getElem_cons_succ, List.getElem_cons_zero, Act.put, List.setIfInBounds_toArray, List.set_cons_succ, List.set_cons_zero]
                refine wpAnyH_take (i := 11) (v := (vZ)) rfl (by kernel_rfl) (by kernel_rfl) (by kernel_rfl) (fun _ _ _ h => h) (.inl ⟨rfl, fun _ hS => rfl⟩) (SS.out _ bZ) ?_
                simp only [List.getElem_toArray, List.getElem_cons_succ, List.getElem_cons_zero, Act.put, List.setIfInBounds_toArray, List.set_cons_succ, List.set_cons_zero]
                refine wpAnyH_done (by kernel_rfl) ?_ _
                have HPZ := hidOf2 PZ
                have HbZ := hidOf2 bZ
                clear PZ GZ bZ SS S0
                have RZ := HRd.out _ HbZ.out
                have cZ0 := RZ.c.1
                have hWd := hw2 _ RZ.rowL.wide
                have hPZ := HPZ.out
                clear RZ
                go_wp2_with (first | (refine apE rfl _ _ rfl wk.heap.size vZ (L.take j ++ [X]) rfl hPZ _ (L.drop j) rfl hWd (by simp; omega) HbZ.out.size ?_; intro vY wY PY GY; have bY := HbZ.out.grown GY HbZ.out.size (own_lt hPZ); have RY := HRd.out _ bY; have cY := RY.c.1; have fY := RY.frozen 0; obtain ⟨aY, cpY, hvY⟩ := own_shape5 PY; obtain ⟨nY, hnY⟩ : ∃ n, (L.take j ++ [X] ++ L.drop j).length = n := ⟨_, rfl⟩; rw [hnY] at hvY; subst hvY; have HRn := hidOf2 (RY.setL (RT.own DE PY)); have HBn := hidOf2 ((HBk.out.trans (bY.mono HBk.out.size)).grown (set_kept wY E 0 (.slice aY nY cpY)) (Nat.le_trans HBk.out.size bY.size) (fun j hj => by cases hj; exact hEw)); clear PY GY bY RY))
                go_roundw
                case rel => exact ⟨k + 1, _, by omega, by go_num, by rw [HI.out, HINS.out]; exact HRn, HBn⟩
                case measure => simp [intOf]; omega
          · have HINS := hidOf2 (ins_at L X j hj HJ.out (fun h => absurd h hjl))
            clear HJ
            go_upto_region 10 with fail
            refine wp_region_later (by kernel_rfl) (by kernel_rfl) ?_
            repeat (go_big_quiet_step (fail))
            refine wpQuiet_nil ?_
            rintro _ ⟨x1, rfl⟩
            obtain ⟨Rk, Ek, Bk⟩ := HRW.out _ (HBx.out.trans (x1.below.mono HBx.out.size))
            clear k0 hLw RX EX BX HBx HRW
            generalize x1.now = wk at *
            clear x1
            have HBk := hidOf2 Bk
            have HRd : Hid (∀ x, Below wk.heap.size wk x → Rd E L _ [] (.slice none 0 0) x) := fun x hb => Rk.below hb
            have SS : Hid (∀ x, Below wk.heap.size wk x → x.cell? ⟨E, 0, none⟩ = some _ ∧ x.rangeAt q 0 (enC X)) := fun x hb => ⟨(Rk.below hb).c.1, (Ek.below hb).r0⟩
            obtain ⟨v1, hs1, hw1⟩ := re_take Rk.rowL j hj
            obtain ⟨v2, hs2, hw2⟩ := re_drop Rk.rowL j hj
            have b0 : Below wk.heap.size wk wk.drew := bdr (Below.refl _ _) 1
            have S0 := SS.out _ b0
            clear Rk Ek Bk
            go_upto_region 12 with fail
            refine wp_region_held (S := fun x => x.cell? ⟨E, 0, none⟩ = some (.slice aL L.length cL) ∧ x.rangeAt q 0 (enC X)) (by kernel_rfl) ?_
            change wpAnyH _ _ _ _ _ _ _ _ wk.drew
            refine wpAnyH_take (i := 1) (v := (.pointer (some ⟨E, 0, none⟩))) rfl (by kernel_rfl) (by kernel_rfl) (by kernel_rfl) (fun _ _ _ h => h) (.inl ⟨rfl, fun _ hS => rfl⟩) S0 ?_
            simp only [List.getElem_toArray, List.getElem_cons_succ, List.getElem_cons_zero, Act.put, List.setIfInBounds_toArray, List.set_cons_succ, List.set_cons_zero]
            refine wpAnyH_take (i := 2) (v := (.pointer (some ⟨E, 0, none⟩))) rfl (by kernel_rfl) (by kernel_rfl) (by kernel_rfl) (fun _ _ _ h => h) (.inl ⟨rfl, fun _ hS => by simp [execOp, go_sem, Act.eval]⟩) S0 ?_
            simp only [List.getElem_toArray, List.getElem_cons_succ, List.getElem_cons_zero, Act.put, List.setIfInBounds_toArray, List.set_cons_succ, List.set_cons_zero]
            refine wpAnyH_take (i := 3) (v := (.pointer (some ⟨E, 0, none⟩))) rfl (by kernel_rfl) (by kernel_rfl) (by kernel_rfl) (fun _ _ _ h => h) (.inl ⟨rfl, fun _ hS => by simp [execOp, go_sem, Act.eval]⟩) S0 ?_
            simp only [List.getElem_toArray, List.getElem_cons_succ, List.getElem_cons_zero, Act.put, List.setIfInBounds_toArray, List.set_cons_succ, List.set_cons_zero]
            refine wpAnyH_take (i := 4) (v := (.slice aL L.length cL)) rfl (by kernel_rfl) (by kernel_rfl) (by kernel_rfl) (fun _ _ _ h => h) (.inl ⟨rfl, fun _ hS => exec_load rfl rfl (load_ents _ _ _ _ _ _ hS.1)⟩) S0 ?_
            simp only [List.getElem_toArray, List.getElem_cons_succ, List.getElem_cons_zero, Act.put, List.setIfInBounds_toArray, List.set_cons_succ, List.set_cons_zero]
            refine wpAnyH_take (i := 5) (v := (.int .i64 (j : Int))) rfl (by kernel_rfl) (by kernel_rfl) (by kernel_rfl) (fun _ _ _ h => h) (.inl ⟨rfl, fun _ hS => rfl⟩) S0 ?_
            simp only [List.getElem_toArray, List.getElem_cons_succ, List.getElem_cons_zero, Act.put, List.setIfInBounds_toArray, List.set_cons_succ, List.set_cons_zero]
            refine wpAnyH_take (i := 6) (v := (v1)) rfl (by kernel_rfl) (by kernel_rfl) (by kernel_rfl) (fun _ _ _ h => h) (.inl ⟨rfl, fun _ hS => by simp [execOp, go_sem, Act.eval, hs1]⟩) S0 ?_
            simp only [List.getElem_toArray, List.getElem_cons_succ, List.getElem_cons_zero, Act.put, List.setIfInBounds_toArray, List.set_cons_succ, List.set_cons_zero]
            refine wpAnyH_take (i := 8) (v := (.agg X.arr)) rfl (by kernel_rfl) (by kernel_rfl) (by kernel_rfl) (fun _ _ _ h => h) (.inl ⟨rfl, fun _ hS => exec_load rfl rfl (run_ldE hS.2)⟩) S0 ?_
            simp only [List.getElem_toArray, List.getElem_cons_succ, List.getElem_cons_zero, Act.put, List.setIfInBounds_toArray, List.set_cons_succ, List.set_cons_zero]
            refine wpAnyH_all (rs := [0, 9]) (by kernel_rfl) (by simp) ?_
            intro k hk
            simp only [List.mem_cons, List.mem_nil_iff, or_false] at hk
            rcases hk with rfl | rfl
            · refine wpOp_run rfl rfl (wp_bs0g Try.underlying22 infoEz rfl ?_)
              have b1 := b0.alloc b0.size (.cells #[] 59)
              have P1 : (wk.drew.alloc (.cells #[] 59)).ownsRow wk.heap.size 59 14 (.slice (some ⟨wk.drew.heap.size, 0, none⟩) 0 0) ([] : List En).length (flatW DE []) := own_lower (own0E wk.drew) b0.size
              refine ⟨(SS.out _ b1), ?_⟩
              simp only [List.getElem_toArray, List.getElem_cons_succ, List.getElem_cons_zero, Act.put, List.setIfInBounds_toArray, List.set_cons_succ, List.set_cons_zero]
              refine wpAnyH_all (rs := [7, 9]) (by kernel_rfl) (by simp) ?_
              intro k hk
              simp only [List.mem_cons, List.mem_nil_iff, or_false] at hk
              rcases hk with rfl | rfl
              · refine wpOp_run rfl rfl (wp_append_wide DE _ _ 22 59 _ 120 Try.underlying22 infoEz rfl rfl wk.heap.size (.slice (some ⟨wk.drew.heap.size, 0, none⟩) 0 0) [] rfl P1 _ (L.take j) rfl (hw1 _ (HRd.out _ b1).rowL.wide) (by unfold maxLen; simp; omega) (by simp; omega) b1.size ?_)
                intro v2 w2 P2 G2
                rw [List.nil_append] at P2
                have b2 := b1.grown G2 b1.size (own_lt P1)
                refine ⟨(SS.out _ b2), ?_⟩
                simp only [List.getElem_toArray, List.getElem_cons_succ, List.getElem_cons_zero, Act.put, List.setIfInBounds_toArray, List.set_cons_succ, List.set_cons_zero]
                refine wpAnyH_all (rs := [9]) (by kernel_rfl) (by simp) ?_
                intro k hk
                simp only [List.mem_cons, List.mem_nil_iff, or_false] at hk
                subst hk
                refine wpOp_run rfl rfl (wp_bs1 DE X 22 59 _ 120 _ rfl rfl Try.underlying22 infoEz (by decide) ?_)
                have b3 := b2.alloc b2.size (.cells (enC X).toArray 59)
                have Q3 := wide_new DE w2 X 59
                have P3 := ownsRow_alloc P2 (.cells (enC X).toArray 59)
                refine ⟨(SS.out _ b3), ?_⟩
                simp only [List.getElem_toArray, List.getElem_cons_succ, List.getElem_cons_zero, Act.put, List.setIfInBounds_toArray, List.set_cons_succ, List.set_cons_zero]
                refine wpAnyH_all (rs := [10]) (by kernel_rfl) (by simp) ?_
                intro k hk
                simp only [List.mem_cons, List.mem_nil_iff, or_false] at hk
                subst hk
                refine wpOp_run rfl rfl (wp_append_wide DE _ _ 22 59 _ 120 Try.underlying22 infoEz rfl rfl wk.heap.size _ (L.take j) rfl P3 _ [X] rfl Q3 (by unfold maxLen; simp; omega) (by simp; omega) b3.size ?_)
                intro vZ wZ PZ GZ
                have bZ := b3.grown GZ b3.size (own_lt P3)
                refine ⟨(SS.out _ bZ), ?_⟩
                simp only [List.getElem_toArray, List.getElem_cons_succ, List.getElem_cons_zero, Act.put, List.setIfInBounds_toArray, List.set_cons_succ, List.set_cons_zero]
                refine wpAnyH_take (i := 11) (v := (vZ)) rfl (by kernel_rfl) (by kernel_rfl) (by kernel_rfl) (fun _ _ _ h => h) (.inl ⟨rfl, fun _ hS => rfl⟩) (SS.out _ bZ) ?_
                simp only [List.getElem_toArray, List.getElem_cons_succ, List.getElem_cons_zero, Act.put, List.setIfInBounds_toArray, List.set_cons_succ, List.set_cons_zero]
                refine wpAnyH_done (by kernel_rfl) ?_ _
                have HPZ := hidOf2 PZ
                have HbZ := hidOf2 bZ
                clear PZ GZ bZ SS S0
                have RZ := HRd.out _ HbZ.out
                have cZ0 := RZ.c.1
                have hWd := hw2 _ RZ.rowL.wide
                have hPZ := HPZ.out
                clear RZ
                go_wp2_with (first | (refine apE rfl _ _ rfl wk.heap.size vZ (L.take j ++ [X]) rfl hPZ _ (L.drop j) rfl hWd (by simp; omega) HbZ.out.size ?_; intro vY wY PY GY; have bY := HbZ.out.grown GY HbZ.out.size (own_lt hPZ); have RY := HRd.out _ bY; have cY := RY.c.1; have fY := RY.frozen 0; obtain ⟨aY, cpY, hvY⟩ := own_shape5 PY; obtain ⟨nY, hnY⟩ : ∃ n, (L.take j ++ [X] ++ L.drop j).length = n := ⟨_, rfl⟩; rw [hnY] at hvY; subst hvY; have HRn := hidOf2 (RY.setL (RT.own DE PY)); have HBn := hidOf2 ((HBk.out.trans (bY.mono HBk.out.size)).grown (set_kept wY E 0 (.slice aY nY cpY)) (Nat.le_trans HBk.out.size bY.size) (fun j hj => by cases hj; exact hEw)); clear PY GY bY RY))
                go_roundw
                case rel => exact ⟨k + 1, _, by omega, by go_num, by rw [HI.out, HINS.out]; exact HRn, HBn⟩
                case measure => simp [intOf]; omega
              · refine wpOp_run rfl rfl (wp_bs1 DE X 22 59 _ 120 _ rfl rfl Try.underlying22 infoEz (by decide) ?_)
                have b2 := b1.alloc b1.size (.cells (enC X).toArray 59)
                have Q2 := wide_new DE (wk.drew.alloc (.cells #[] 59)) X 59
                have P2 := ownsRow_alloc P1 (.cells (enC X).toArray 59)
                refine ⟨(SS.out _ b2), ?_⟩
                simp only [List.getElem_toArray, List.getElem_cons_succ, List.getElem_cons_zero, Act.put, List.setIfInBounds_toArray, List.set_cons_succ, List.set_cons_zero]
                refine wpAnyH_all (rs := [7]) (by kernel_rfl) (by simp) ?_
                intro k hk
                simp only [List.mem_cons, List.mem_nil_iff, or_false] at hk
                subst hk
                refine wpOp_run rfl rfl (wp_append_wide DE _ _ 22 59 _ 120 Try.underlying22 infoEz rfl rfl wk.heap.size (.slice (some ⟨wk.drew.heap.size, 0, none⟩) 0 0) [] rfl P2 _ (L.take j) rfl (hw1 _ (HRd.out _ b2).rowL.wide) (by unfold maxLen; simp; omega) (by simp; omega) b2.size ?_)
                intro v3 w3 P3 G3
                rw [List.nil_append] at P3
                have b3 := b2.grown G3 b2.size (own_lt P2)
                have Q3 := Wide.same Q2 G3.size (fun b hb hl => G3.block b hl (fun e => by simp only [Value.ownBlock, Option.some.injEq, size_alloc] at hb e; omega))
                refine ⟨(SS.out _ b3), ?_⟩
                simp only [List.getElem_toArray, List.getElem_cons_succ, List.getElem_cons_zero, Act.put, List.setIfInBounds_toArray, List.set_cons_succ, List.set_cons_zero]
                refine wpAnyH_all (rs := [10]) (by kernel_rfl) (by simp) ?_
                intro k hk
                simp only [List.mem_cons, List.mem_nil_iff, or_false] at hk
                subst hk
                refine wpOp_run rfl rfl (wp_append_wide DE _ _ 22 59 _ 120 Try.underlying22 infoEz rfl rfl wk.heap.size _ (L.take j) rfl P3 _ [X] rfl Q3 (by unfold maxLen; simp; omega) (by simp; omega) b3.size ?_)
                intro vZ wZ PZ GZ
                have bZ := b3.grown GZ b3.size (own_lt P3)
                refine ⟨(SS.out _ bZ), ?_⟩
                simp only [List.getElem_toArray, List.getElem_cons_succ, List.getElem_cons_zero, Act.put, List.setIfInBounds_toArray, List.set_cons_succ, List.set_cons_zero]
                refine wpAnyH_take (i := 11) (v := (vZ)) rfl (by kernel_rfl) (by kernel_rfl) (by kernel_rfl) (fun _ _ _ h => h) (.inl ⟨rfl, fun _ hS => rfl⟩) (SS.out _ bZ) ?_
                simp only [List.getElem_toArray, List.getElem_cons_succ, List.getElem_cons_zero, Act.put, List.setIfInBounds_toArray, List.set_cons_succ, List.set_cons_zero]
                refine wpAnyH_done (by kernel_rfl) ?_ _
                have HPZ := hidOf2 PZ
                have HbZ := hidOf2 bZ
                clear PZ GZ bZ SS S0
                have RZ := HRd.out _ HbZ.out
                have cZ0 := RZ.c.1
                have hWd := hw2 _ RZ.rowL.wide
                have hPZ := HPZ.out
                clear RZ
                go_wp2_with (first | (refine apE rfl _ _ rfl wk.heap.size vZ (L.take j ++ [X]) rfl hPZ _ (L.drop j) rfl hWd (by simp; omega) HbZ.out.size ?_; intro vY wY PY GY; have bY := HbZ.out.grown GY HbZ.out.size (own_lt hPZ); have RY := HRd.out _ bY; have cY := RY.c.1; have fY := RY.frozen 0; obtain ⟨aY, cpY, hvY⟩ := own_shape5 PY; obtain ⟨nY, hnY⟩ : ∃ n, (L.take j ++ [X] ++ L.drop j).length = n := ⟨_, rfl⟩; rw [hnY] at hvY; subst hvY; have HRn := hidOf2 (RY.setL (RT.own DE PY)); have HBn := hidOf2 ((HBk.out.trans (bY.mono HBk.out.size)).grown (set_kept wY E 0 (.slice aY nY cpY)) (Nat.le_trans HBk.out.size bY.size) (fun j hj => by cases hj; exact hEw)); clear PY GY bY RY))
                go_roundw
                case rel => exact ⟨k + 1, _, by omega, by go_num, by rw [HI.out, HINS.out]; exact HRn, HBn⟩
                case measure => simp [intOf]; omega
            · refine wpOp_run rfl rfl (wp_bs1 DE X 22 59 _ 120 _ rfl rfl Try.underlying22 infoEz (by decide) ?_)
              have b1 := b0.alloc b0.size (.cells (enC X).toArray 59)
              have Q1 := wide_new DE wk.drew X 59
              refine ⟨(SS.out _ b1), ?_⟩
              simp only [List.getElem_toArray, List.getElem_cons_succ, List.getElem_cons_zero, Act.put, List.setIfInBounds_toArray, List.set_cons_succ, List.set_cons_zero]
              refine wpAnyH_all (rs := [0]) (by kernel_rfl) (by simp) ?_
              intro k hk
              simp only [List.mem_cons, List.mem_nil_iff, or_false] at hk
              subst hk
              refine wpOp_run rfl rfl (wp_bs0g Try.underlying22 infoEz rfl ?_)
              have b2 := b1.alloc b1.size (.cells #[] 59)
              have P2 : ((wk.drew.alloc (.cells (enC X).toArray 59)).alloc (.cells #[] 59)).ownsRow wk.heap.size 59 14 (.slice (some ⟨(wk.drew.alloc (.cells (enC X).toArray 59)).heap.size, 0, none⟩) 0 0) ([] : List En).length (flatW DE []) := own_lower (own0E (wk.drew.alloc (.cells (enC X).toArray 59))) b1.size
              have Q2 := wide_alloc Q1 (.cells #[] 59)
              refine ⟨(SS.out _ b2), ?_⟩
              simp only [List.getElem_toArray, List.getElem_cons_succ, List.getElem_cons_zero, Act.put, List.setIfInBounds_toArray, List.set_cons_succ, List.set_cons_zero]
              refine wpAnyH_all (rs := [7]) (by kernel_rfl) (by simp) ?_
              intro k hk
              simp only [List.mem_cons, List.mem_nil_iff, or_false] at hk
              subst hk
              refine wpOp_run rfl rfl (wp_append_wide DE _ _ 22 59 _ 120 Try.underlying22 infoEz rfl rfl wk.heap.size (.slice (some ⟨(wk.drew.alloc (.cells (enC X).toArray 59)).heap.size, 0, none⟩) 0 0) [] rfl P2 _ (L.take j) rfl (hw1 _ (HRd.out _ b2).rowL.wide) (by unfold maxLen; simp; omega) (by simp; omega) b2.size ?_)
              intro v3 w3 P3 G3
              rw [List.nil_append] at P3
              have b3 := b2.grown G3 b2.size (own_lt P2)
              have Q3 := Wide.same Q2 G3.size (fun b hb hl => G3.block b hl (fun e => by simp only [Value.ownBlock, Option.some.injEq, size_alloc] at hb e; omega))
              refine ⟨(SS.out _ b3), ?_⟩
              simp only [List.getElem_toArray, List.getElem_cons_succ, List.getElem_cons_zero, Act.put, List.setIfInBounds_toArray, List.set_cons_succ, List.set_cons_zero]
              refine wpAnyH_all (rs := [10]) (by kernel_rfl) (by simp) ?_
              intro k hk
              simp only [List.mem_cons, List.mem_nil_iff, or_false] at hk
              subst hk
              refine wpOp_run rfl rfl (wp_append_wide DE _ _ 22 59 _ 120 Try.underlying22 infoEz rfl rfl wk.heap.size _ (L.take j) rfl P3 _ [X] rfl Q3 (by unfold maxLen; simp; omega) (by simp; omega) b3.size ?_)
              intro vZ wZ PZ GZ
              have bZ := b3.grown GZ b3.size (own_lt P3)
              refine ⟨(SS.out _ bZ), ?_⟩
              simp only [List.getElem_toArray, List.getElem_cons_succ, List.getElem_cons_zero, Act.put, List.setIfInBounds_toArray, List.set_cons_succ, List.set_cons_zero]
              refine wpAnyH_take (i := 11) (v := (vZ)) rfl (by kernel_rfl) (by kernel_rfl) (by kernel_rfl) (fun _ _ _ h => h) (.inl ⟨rfl, fun _ hS => rfl⟩) (SS.out _ bZ) ?_
              simp only [List.getElem_toArray, List.getElem_cons_succ, List.getElem_cons_zero, Act.put, List.setIfInBounds_toArray, List.set_cons_succ, List.set_cons_zero]
              refine wpAnyH_done (by kernel_rfl) ?_ _
              have HPZ := hidOf2 PZ
              have HbZ := hidOf2 bZ
              clear PZ GZ bZ SS S0
              have RZ := HRd.out _ HbZ.out
              have cZ0 := RZ.c.1
              have hWd := hw2 _ RZ.rowL.wide
              have hPZ := HPZ.out
              clear RZ
              go_wp2_with (first | (refine apE rfl _ _ rfl wk.heap.size vZ (L.take j ++ [X]) rfl hPZ _ (L.drop j) rfl hWd (by simp; omega) HbZ.out.size ?_; intro vY wY PY GY; have bY := HbZ.out.grown GY HbZ.out.size (own_lt hPZ); have RY := HRd.out _ bY; have cY := RY.c.1; have fY := RY.frozen 0; obtain ⟨aY, cpY, hvY⟩ := own_shape5 PY; obtain ⟨nY, hnY⟩ : ∃ n, (L.take j ++ [X] ++ L.drop j).length = n := ⟨_, rfl⟩; rw [hnY] at hvY; subst hvY; have HRn := hidOf2 (RY.setL (RT.own DE PY)); have HBn := hidOf2 ((HBk.out.trans (bY.mono HBk.out.size)).grown (set_kept wY E 0 (.slice aY nY cpY)) (Nat.le_trans HBk.out.size bY.size) (fun j hj => by cases hj; exact hEw)); clear PY GY bY RY))
              go_roundw
              case rel => exact ⟨k + 1, _, by omega, by go_num, by rw [HI.out, HINS.out]; exact HRn, HBn⟩
              case measure => simp [intOf]; omega
      · have e1 : k = l.length := by omega
        subst e1
        rw [List.take_length] at HR
        have hLl : (insL [] l).length ≤ 1024 := by rw [insL_len]; simp; omega
        have hRs := QReset_any HR.out hLl
        clear HR
        go_wp2_with fail
        refine hRs.mono ?_
        rintro x w5 ⟨rfl, vV', RN, _, GN⟩
        have B5 : Below w.heap.size w w5 := HB.out.grown GN HB.out.size (fun j hj => by cases hj; exact hEw)
        have HRN := hidOf2 RN
        clear hRs RN GN HB
        go_wp2
        go_ret2
        exact ⟨B5, fun h => absurd rfl h, fun _ => ⟨E, _, _, rfl, hEw, HRN.out⟩⟩
  · have d1 : ((chkL l : Int) != 0) = true := by simpa using hc
    have HC2 : Hid (¬ chkL l = 0) := hc
    clear hc HC
    generalize chkL l = C at *
    generalize insL [] l = LL at *
    go_enter Try.func16, Try.ntmps16
    go_wp2_with fail
    refine hC.mono ?_
    rintro x w1 ⟨rfl, b1⟩
    clear hC
    go_wp2
    go_ret2
    exact ⟨b1, fun _ => rfl, fun h => absurd h HC2.out⟩
end Go.Proofs.Ythalhidebkhclaa
