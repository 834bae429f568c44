/- What a dictionary keeps is what was saved last, or is being saved, whenever the power goes: TopStore returns true, whatever comes in. -/
import Derived.Test.YtjlbahgjjdfaeaaGreatXc1
namespace Go.Proofs.YtjlbahgjjdfaeaaGreat
open Go.RowKit Go.Proofs.Ty Go.Proofs.Nv
set_option linter.unusedVariables false
set_option maxRecDepth 1000000
set_option linter.unusedSimpArgs false
/-- What is kept, if anything, was saved once. -/
def SdI (an : Bool) (l : List En) (kl : List UInt8) : Prop := an = true → Sd l kl
set_option maxHeartbeats 64000000 in
theorem tstore_walk (v0 v1 v2 : Value) (l : List En) (acts : List A3) (lc : List UInt8) (w : World) (h0 : Wide 14 enC w v0 l) (h1 : Wide 3 A3.cells w v1 acts) (hC : Bytes w v2 lc) (hn0 : l.length ≤ 1172812402927) (hn1 : acts.length ≤ 140737488351232) (hlc : lc.length ≤ 140737488351232) (hb : ∀ a ∈ acts, a.ok w) :
    Calls Tryz.prog 3 #[v0, v1, v2] w fun e w' => e = .returned (.bool true) ∧ Below w.heap.size w w' := by
  have HW0 := hidOf2 h0
  obtain ⟨ao0, cp0, rfl⟩ := h0.shape
  have hBg := Begins_any _ l w h0 hn0
  obtain ⟨ao1, cp1, rfl, _, hc1⟩ := h1
  have HCA : Hid (∀ k (hk : k < acts.length), ∃ b off, ao1 = some ⟨b, off, none⟩ ∧ b < w.heap.size ∧ w.rangeAt b (off + k * 3) (A3.cells acts[k])) := hc1
  have HBA := hidOf2 hb
  obtain ⟨ac, cc, rfl⟩ := bytes_shape hC
  have HCC := hidOf2 hC
  obtain ⟨na, hna⟩ : ∃ n, acts.length = n := ⟨_, rfl⟩
  obtain ⟨nc, hnc⟩ : ∃ n, lc.length = n := ⟨_, rfl⟩
  have HNA := hidOf2 hna
  have HNC := hidOf2 hnc
  rw [hna] at hn1 ⊢
  rw [hnc] at hlc HCC ⊢
  clear h0 hb hc1 hC hna hnc
  go_enter Tryz.func3, Tryz.ntmps3
  go_wp2_with fail
  refine hBg.mono ?_
  rintro e w1 ⟨B1, hbad, hgood⟩
  have HG := hidOf2 hgood
  have HB2 := hidOf2 hbad
  clear hBg hgood hbad
  by_cases hc : chkL l = 0
  · obtain ⟨X, D, R, E, its, vL, vV, rfl, N1⟩ := HG.out hc
    have HO0 := hidOf2 (ok_its hc N1.perm N1.vals)
    have HP0 := hidOf2 N1.perm
    have HTT : Hid (∀ C P d x, Nz.Lw w1 C P d x → Ts w X D R E C P its d x) := fun C P d x h => ⟨N1.dct.below h.old, (h.old.block X (Array.getElem?_eq_some_iff.1 N1.pair).1).trans N1.pair, h.chip, N1.below.trans (h.old.mono N1.below.size), (fun b hb => by obtain ⟨i, hi, rfl⟩ := List.mem_map.1 hb; exact N1.base i hi), Nat.le_trans N1.below.size h.c1, Nat.le_trans N1.below.size h.p1⟩
    have hN := Nz.New_ok 512 (by omega) (by omega) w1
    have HK0 : Hid (Kx 2040 (Ch.new 512) false []) := ⟨Ch.new_ok (by omega) (by omega), rfl, rfl, rfl, by rw [new_kept (by omega)], by rw [new_kept (by omega)]; rfl⟩
    generalize Ch.new 512 = d0 at *
    clear N1 HG HB2
    go_wp2_with fail
    refine hN.mono ?_
    rintro e w2 ⟨C, P, rfl, hL⟩
    have HT0 := hidOf2 (HTT.out C P d0 w2 hL)
    clear hN hL HTT
    go_wp2_with fail
    go_loopw [11, 12, 13] (fun kv av i x => ∃ (k : Nat) (its : List Im) (d : Ch) (an : Bool) (kl : List UInt8), k ≤ 12 ∧ k ≤ na ∧ i = .int .i64 k ∧ av = .bool an ∧ kv = .string ⟨kl.toArray⟩ ∧ Hid (Ts w X D R E C P its d x) ∧ Hid (∀ i ∈ its, Ok i) ∧ Hid ((its.map Im.e).Perm (l.map En.plain)) ∧ Hid (Kx 2040 d an kl) ∧ Hid (SdI an l kl)) (fun _ _ i _ => 12 - (intOf i).toNat)
    case atStart => exact ⟨0, its, d0, false, [], by omega, Nat.zero_le _, rfl, rfl, rfl, HT0, HO0, HP0, HK0, fun h => by cases h⟩
    case round =>
      clear HT0 HO0 HP0 HK0
      obtain ⟨k, its, d, an, kl, hk, hka, rfl, rfl, rfl, HT, HO, HP, HK, HS⟩ := hrel
      by_cases hk1 : k < na
      · have hd1 : decide ((k : Int) < (na : Int)) = true := by simp; omega
        by_cases hk2 : k < 12
        · have hd2 : decide ((k : Int) < 12) = true := by simp; omega
          have hkl : k < acts.length := by rw [HNA.out]; exact hk1
          obtain ⟨b, off, hao, hblt, hR⟩ := HCA.out k hkl
          subst hao
          have hA := HBA.out acts[k] (List.getElem_mem hkl)
          obtain ⟨A, hAe⟩ : ∃ A, acts[k] = A := ⟨_, rfl⟩
          rw [hAe] at hA hR
          obtain ⟨ix, sb, va, lb⟩ := A
          obtain ⟨hix, hsb, hby, hle⟩ := hA
          simp only at hix hsb hby hle
          obtain ⟨av, cv, rfl⟩ := bytes_shape hby
          have HCE : Hid (∀ x, Below w.heap.size w x → x.cell? ⟨b, off + k * 3, none⟩ = some (.int .u16 (ix : Nat)) ∧ x.cell? ⟨b, off + k * 3 + 1, none⟩ = some (.int .u8 (sb : Nat)) ∧ x.cell? ⟨b, off + k * 3 + 2, none⟩ = some (.slice av lb.length cv)) := fun x hx => ⟨(hx.cell (p := ⟨b, off + k * 3, none⟩) hblt).trans (hR 0 _ rfl), (hx.cell (p := ⟨b, off + k * 3 + 1, none⟩) hblt).trans (hR 1 _ rfl), (hx.cell (p := ⟨b, off + k * 3 + 2, none⟩) hblt).trans (hR 2 _ rfl)⟩
          have HBX : Hid (∀ x, Below w.heap.size w x → Bytes x (.slice av lb.length cv) lb) := fun x hx => hby.below hx
          have HLE := hidOf2 hle
          clear hR hAe hkl hby hle
          go_wp2_with fail
          refine wp_region_held (S := fun x => ∃ i, Ts w X D R E C P i d x) (by kernel_rfl) ?_
          obtain ⟨y1, hy1⟩ : ∃ x : World, { wr with drawn := wr.drawn + 1 } = x := ⟨_, rfl⟩
          have t1 : Ts w X D R E C P its d y1 := by rw [← hy1]; exact HT.out.draw
          have f1 : ∃ i, Ts w X D R E C P i d y1 := ⟨its, t1⟩
          rw [hy1]
          refine wpAnyH_take (i := 0) (v := (.pointer (some ⟨X, 0, none⟩))) rfl (by kernel_rfl) (by kernel_rfl) (by kernel_rfl) (fun _ _ _ h => h) (.inl ⟨rfl, fun _ hS => rfl⟩) f1 ?_
          simp only [List.getElem_toArray, List.getElem_cons_succ, List.getElem_cons_zero, Act.put, List.setIfInBounds_toArray, List.set_cons_succ, List.set_cons_zero]
          refine wpAnyH_take (i := 1) (v := (.pointer (some ⟨X, 0, none⟩))) rfl (by kernel_rfl) (by kernel_rfl) (by kernel_rfl) (fun _ _ _ h => h) (.inl ⟨rfl, fun _ hS => by simp [execOp, go_sem, Act.eval]⟩) f1 ?_
          simp only [List.getElem_toArray, List.getElem_cons_succ, List.getElem_cons_zero, Act.put, List.setIfInBounds_toArray, List.set_cons_succ, List.set_cons_zero]
          refine wpAnyH_take (i := 2) (v := (.pointer (some ⟨X, 0, none⟩))) rfl (by kernel_rfl) (by kernel_rfl) (by kernel_rfl) (fun _ _ _ h => h) (.inl ⟨rfl, fun _ hS => by simp [execOp, go_sem, Act.eval]⟩) f1 ?_
          simp only [List.getElem_toArray, List.getElem_cons_succ, List.getElem_cons_zero, Act.put, List.setIfInBounds_toArray, List.set_cons_succ, List.set_cons_zero]
          refine wpAnyH_take (i := 3) (v := (.pointer (some ⟨D, 0, none⟩))) rfl (by kernel_rfl) (by kernel_rfl) (by kernel_rfl) (fun _ _ _ h => h) (.inl ⟨rfl, fun _ hS => by obtain ⟨i, hS⟩ := hS; exact Nz.exec_loadN rfl rfl (load_pdQ _ X 0 D hS.cX)⟩) f1 ?_
          simp only [List.getElem_toArray, List.getElem_cons_succ, List.getElem_cons_zero, Act.put, List.setIfInBounds_toArray, List.set_cons_succ, List.set_cons_zero]
          refine wpAnyH_take (i := 4) (v := (.slice (some ⟨b, off, none⟩) na cp1)) rfl (by kernel_rfl) (by kernel_rfl) (by kernel_rfl) (fun _ _ _ h => h) (.inl ⟨rfl, fun _ hS => rfl⟩) f1 ?_
          simp only [List.getElem_toArray, List.getElem_cons_succ, List.getElem_cons_zero, Act.put, List.setIfInBounds_toArray, List.set_cons_succ, List.set_cons_zero]
          refine wpAnyH_take (i := 5) (v := (.int .i64 k)) rfl (by kernel_rfl) (by kernel_rfl) (by kernel_rfl) (fun _ _ _ h => h) (.inl ⟨rfl, fun _ hS => rfl⟩) f1 ?_
          simp only [List.getElem_toArray, List.getElem_cons_succ, List.getElem_cons_zero, Act.put, List.setIfInBounds_toArray, List.set_cons_succ, List.set_cons_zero]
          refine wpAnyH_take (i := 6) (v := (.pointer (some ⟨b, off + k * 3, none⟩))) rfl (by kernel_rfl) (by kernel_rfl) (by kernel_rfl) (fun _ _ _ h => h) (.inl ⟨rfl, fun x hS => exec_ixQ rfl rfl rfl hk1 x⟩) f1 ?_
          simp only [List.getElem_toArray, List.getElem_cons_succ, List.getElem_cons_zero, Act.put, List.setIfInBounds_toArray, List.set_cons_succ, List.set_cons_zero]
          refine wpAnyH_take (i := 7) (v := (.pointer (some ⟨b, off + k * 3, none⟩))) rfl (by kernel_rfl) (by kernel_rfl) (by kernel_rfl) (fun _ _ _ h => h) (.inl ⟨rfl, fun _ hS => by simp [execOp, go_sem, Act.eval]⟩) f1 ?_
          simp only [List.getElem_toArray, List.getElem_cons_succ, List.getElem_cons_zero, Act.put, List.setIfInBounds_toArray, List.set_cons_succ, List.set_cons_zero]
          refine wpAnyH_take (i := 8) (v := (.int .u16 (ix : Nat))) rfl (by kernel_rfl) (by kernel_rfl) (by kernel_rfl) (fun _ _ _ h => h) (.inl ⟨rfl, fun _ hS => by obtain ⟨i, hS⟩ := hS; exact Nz.exec_loadN rfl rfl (load_u16Q _ b _ _ (HCE.out _ hS.below).1)⟩) f1 ?_
          simp only [List.getElem_toArray, List.getElem_cons_succ, List.getElem_cons_zero, Act.put, List.setIfInBounds_toArray, List.set_cons_succ, List.set_cons_zero]
          refine wpAnyH_take (i := 9) (v := (.slice (some ⟨b, off, none⟩) na cp1)) rfl (by kernel_rfl) (by kernel_rfl) (by kernel_rfl) (fun _ _ _ h => h) (.inl ⟨rfl, fun _ hS => rfl⟩) f1 ?_
          simp only [List.getElem_toArray, List.getElem_cons_succ, List.getElem_cons_zero, Act.put, List.setIfInBounds_toArray, List.set_cons_succ, List.set_cons_zero]
          refine wpAnyH_take (i := 10) (v := (.int .i64 k)) rfl (by kernel_rfl) (by kernel_rfl) (by kernel_rfl) (fun _ _ _ h => h) (.inl ⟨rfl, fun _ hS => rfl⟩) f1 ?_
          simp only [List.getElem_toArray, List.getElem_cons_succ, List.getElem_cons_zero, Act.put, List.setIfInBounds_toArray, List.set_cons_succ, List.set_cons_zero]
          refine wpAnyH_take (i := 11) (v := (.pointer (some ⟨b, off + k * 3, none⟩))) rfl (by kernel_rfl) (by kernel_rfl) (by kernel_rfl) (fun _ _ _ h => h) (.inl ⟨rfl, fun x hS => exec_ixQ rfl rfl rfl hk1 x⟩) f1 ?_
          simp only [List.getElem_toArray, List.getElem_cons_succ, List.getElem_cons_zero, Act.put, List.setIfInBounds_toArray, List.set_cons_succ, List.set_cons_zero]
          refine wpAnyH_take (i := 12) (v := (.pointer (some ⟨b, off + k * 3 + 1, none⟩))) rfl (by kernel_rfl) (by kernel_rfl) (by kernel_rfl) (fun _ _ _ h => h) (.inl ⟨rfl, fun _ hS => by simp [execOp, go_sem, Act.eval]⟩) f1 ?_
          simp only [List.getElem_toArray, List.getElem_cons_succ, List.getElem_cons_zero, Act.put, List.setIfInBounds_toArray, List.set_cons_succ, List.set_cons_zero]
          refine wpAnyH_take (i := 13) (v := (.int .u8 (sb : Nat))) rfl (by kernel_rfl) (by kernel_rfl) (by kernel_rfl) (fun _ _ _ h => h) (.inl ⟨rfl, fun _ hS => by obtain ⟨i, hS⟩ := hS; exact Nz.exec_loadN rfl rfl (load_u8Q _ b _ _ (HCE.out _ hS.below).2.1)⟩) f1 ?_
          simp only [List.getElem_toArray, List.getElem_cons_succ, List.getElem_cons_zero, Act.put, List.setIfInBounds_toArray, List.set_cons_succ, List.set_cons_zero]
          refine wpAnyH_take (i := 15) (v := (.slice (some ⟨b, off, none⟩) na cp1)) rfl (by kernel_rfl) (by kernel_rfl) (by kernel_rfl) (fun _ _ _ h => h) (.inl ⟨rfl, fun _ hS => rfl⟩) f1 ?_
          simp only [List.getElem_toArray, List.getElem_cons_succ, List.getElem_cons_zero, Act.put, List.setIfInBounds_toArray, List.set_cons_succ, List.set_cons_zero]
          refine wpAnyH_take (i := 16) (v := (.int .i64 k)) rfl (by kernel_rfl) (by kernel_rfl) (by kernel_rfl) (fun _ _ _ h => h) (.inl ⟨rfl, fun _ hS => rfl⟩) f1 ?_
          simp only [List.getElem_toArray, List.getElem_cons_succ, List.getElem_cons_zero, Act.put, List.setIfInBounds_toArray, List.set_cons_succ, List.set_cons_zero]
          refine wpAnyH_take (i := 17) (v := (.pointer (some ⟨b, off + k * 3, none⟩))) rfl (by kernel_rfl) (by kernel_rfl) (by kernel_rfl) (fun _ _ _ h => h) (.inl ⟨rfl, fun x hS => exec_ixQ rfl rfl rfl hk1 x⟩) f1 ?_
          simp only [List.getElem_toArray, List.getElem_cons_succ, List.getElem_cons_zero, Act.put, List.setIfInBounds_toArray, List.set_cons_succ, List.set_cons_zero]
          refine wpAnyH_take (i := 18) (v := (.pointer (some ⟨b, off + k * 3 + 2, none⟩))) rfl (by kernel_rfl) (by kernel_rfl) (by kernel_rfl) (fun _ _ _ h => h) (.inl ⟨rfl, fun _ hS => by simp [execOp, go_sem, Act.eval]⟩) f1 ?_
          simp only [List.getElem_toArray, List.getElem_cons_succ, List.getElem_cons_zero, Act.put, List.setIfInBounds_toArray, List.set_cons_succ, List.set_cons_zero]
          refine wpAnyH_take (i := 19) (v := (.slice av lb.length cv)) rfl (by kernel_rfl) (by kernel_rfl) (by kernel_rfl) (fun _ _ _ h => h) (.inl ⟨rfl, fun _ hS => by obtain ⟨i, hS⟩ := hS; exact Nz.exec_loadN rfl rfl (load_bysQ _ b _ _ _ _ (HCE.out _ hS.below).2.2)⟩) f1 ?_
          simp only [List.getElem_toArray, List.getElem_cons_succ, List.getElem_cons_zero, Act.put, List.setIfInBounds_toArray, List.set_cons_succ, List.set_cons_zero]
          refine wpAnyH_all (rs := [14]) (by kernel_rfl) (by simp) ?_
          intro kk hkk
          simp only [List.mem_cons, List.mem_nil_iff, or_false] at hkk
          subst hkk
          refine Nz.wpOp_runN rfl rfl (wp_bs0g Tryz.underlying24 info5 rfl ?_)
          have b2 : Below y1.heap.size y1 (y1.alloc (.cells #[] 5)) := (Below.refl _ y1).alloc (Nat.le_refl _) _
          have t2 := t1.next b2
          refine ⟨⟨its, t2⟩, ?_⟩
          simp only [List.getElem_toArray, List.getElem_cons_succ, List.getElem_cons_zero, Act.put, List.setIfInBounds_toArray, List.set_cons_succ, List.set_cons_zero]
          refine wpAnyH_all (rs := [20]) (by kernel_rfl) (by simp) ?_
          intro kk hkk
          simp only [List.mem_cons, List.mem_nil_iff, or_false] at hkk
          subst hkk
          refine Nz.wpOp_runN rfl rfl (wp_appQ _ _ rfl y1.heap.size (.slice (some ⟨y1.heap.size, 0, none⟩) 0 0) [] rfl (own_empty y1) _ lb rfl (HBX.out _ t2.below) (by have := HLE.out; simp; omega) (by rw [size_alloc]; omega) ?_)
          intro v3 w3 ho hg
          have b3 : Below y1.heap.size y1 w3 := b2.grown hg b2.size (fun k e => by cases e; exact Nat.le_refl _)
          have t3 := t1.next b3
          have ho' : w3.ownsRow y1.heap.size 5 1 v3 lb.length (Lib.byteCells lb) := ho
          have hw3 := Write_any t3.dct ix sb hix hsb v3 lb (bytes_of_own ho')
          refine ⟨⟨its, t3⟩, ?_⟩
          simp only [List.getElem_toArray, List.getElem_cons_succ, List.getElem_cons_zero, Act.put, List.setIfInBounds_toArray, List.set_cons_succ, List.set_cons_zero]
          refine wpAnyH_all (rs := [21]) (by kernel_rfl) (by simp) ?_
          intro kk hkk
          simp only [List.mem_cons, List.mem_nil_iff, or_false] at hkk
          subst hkk
          refine Nz.wpOp_runN rfl rfl (Nz.wp_callN 6 #[.pointer (some ⟨D, 0, none⟩), .int .u16 (ix : Nat), .int .u8 (sb : Nat), v3] (by simp [execOp, go_sem, Act.eval, resolve, invoke, enQ]) (hw3.mono ?_))
          rintro e w5 ⟨rfl, D5, K5⟩
          have al5 := Al.wrt (⟨rfl, rfl⟩ : Al (its.map Im.e) (its.map Im.b) its) ix sb lb
          have HT5 := hidOf2 (t3.kp D5 K5 al5.b)
          have HO5 := hidOf2 (ok_wrt t3.dct.apart HO.out ix sb lb)
          have HP5 := hidOf2 (show ((wrt its ix sb lb).map Im.e).Perm (l.map En.plain) by rw [al5.e]; exact HP.out)
          refine ⟨⟨_, HT5.out⟩, ?_⟩
          simp only [List.getElem_toArray, List.getElem_cons_succ, List.getElem_cons_zero, Act.put, List.setIfInBounds_toArray, List.set_cons_succ, List.set_cons_zero]
          refine wpAnyH_done (by kernel_rfl) ?_ _
          clear D5 K5 al5
          clear hy1 t1 t2 t3 f1 b2 b3 hg ho ho' hw3 HBX HCE
          obtain ⟨itz, hitz⟩ : ∃ z, wrt its ix sb lb = z := ⟨_, rfl⟩
          rw [hitz] at HT5 HO5 HP5
          clear hitz HT HO HP
          have hSv := Save_any HT5.out.dct
          have cX5 := HT5.out.cX
          go_wp2_with fail
          refine hSv.mono ?_
          rintro e w6 ⟨v6, rfl, P6, b6⟩
          have HT6 := hidOf2 (HT5.out.next b6)
          obtain ⟨a6, cp6, hv6⟩ := own_shape5 P6
          subst hv6
          have HY6 := hidOf2 (bytes_of_own P6)
          have HAP := hidOf2 (Nz.ap_own P6 HT6.out.chip)
          have HCP := hidOf2 (Nz.own_cpN P6)
          have hrm := Nz.Room_any HT6.out.chip
          rw [HK.out.room] at hrm
          have hsl := sav_len itz
          have hil := HT6.out.dct.len
          have HSD : Hid ((sav itz).length ≤ 2040 → Sd l (sav itz)) := fun h => ⟨itz, HP5.out, HT6.out.dct.sorted, HO5.out, rfl, h⟩
          obtain ⟨bz, hbz⟩ : ∃ z, sav itz = z := ⟨_, rfl⟩
          rw [hbz] at hsl HY6 HAP HCP HSD ⊢
          have HSC : Hid (∀ dd y, Ts w X D R E C P itz dd y → Bytes y (.slice a6 bz.length cp6) bz → Calls Tryz.prog 10 #[.pointer (some ⟨C, 0, none⟩), .slice a6 bz.length cp6] y fun e w' => e = .returned (.int .i64 (dd.save bz).2) ∧ Ts w X D R E C P itz (dd.save bz).1 w' ∧ Bytes w' (.slice a6 bz.length cp6) bz) := fun dd y hy hB => (Nz.Save_any hy.chip _ bz (by omega) hB HAP.out HCP.out).mono fun e w' ⟨he, hc, ht⟩ => ⟨he, hy.two hc ht, hB.two HAP.out ht⟩
          have HPW : Hid (∀ dd y, Ts w X D R E C P itz dd y → Calls Tryz.prog 11 #[.pointer (some ⟨C, 0, none⟩)] y fun e w' => (∃ v, e = .returned v) ∧ Ts w X D R E C P itz dd.power w') := fun dd y hy => (Nz.Power_any hy.chip).mono fun e w' ⟨he, hc, ht⟩ => ⟨he, hy.two hc ht⟩
          obtain ⟨nb, hnb⟩ : ∃ n, bz.length = n := ⟨_, rfl⟩
          have HNB := hidOf2 hnb
          rw [hnb] at hsl HY6 HAP HCP HSD HSC ⊢
          clear hSv P6 b6 HT5 cX5 hbz hnb
          by_cases hbig : 2040 < nb
          · have hdb : decide ((2040 : Int) < (nb : Int)) = true := by simp; omega
            go_wp2_with (go_at_call 8; refine hrm.mono ?_; rintro e x1 ⟨rfl, hx1⟩; rw [hx1]; clear hx1 x1)
            go_ret
            exact ⟨rfl, HT6.out.below⟩
          · have hdb : decide ((2040 : Int) < (nb : Int)) = false := by simp; omega
            have hbl : bz.length ≤ 2040 := by rw [HNB.out]; omega
            have HSD2 := hidOf2 (HSD.out (by omega))
            clear HSD
            by_cases hnc0 : 0 < nc
            · have hkm : k % nc < nc := Nat.mod_lt _ hnc0
              have hkm' : k % nc < lc.length := by rw [HNC.out]; exact hkm
              have hdc : decide ((0 : Int) < (nc : Int)) = true := by simp; omega
              obtain ⟨bc, oc, hcs⟩ : ∃ bc oc, ac = some ⟨bc, oc, none⟩ ∧ bc < w.heap.size ∧ w.cell? ⟨bc, oc + k % nc, none⟩ = some (.int .u8 (lc[k % nc].toNat)) := by
                obtain ⟨ao', cap', hv, _, hc⟩ := HCC.out
                obtain ⟨b', off', ha, hb', hcell'⟩ := hc (k % nc) hkm'
                injection hv with e1 _ _
                exact ⟨b', off', by rw [e1, ha], hb', hcell'⟩
              obtain ⟨rfl, hbc, hcc⟩ := hcs
              have hcu := lc[k % nc].toNat_lt
              obtain ⟨cu, hcue⟩ : ∃ cu, lc[k % nc].toNat = cu := ⟨_, rfl⟩
              rw [hcue] at hcc hcu
              have hccw : w6.cell? ⟨bc, oc + k % nc, none⟩ = some (.int .u8 (cu : Int)) := (HT6.out.below.cell (p := ⟨bc, oc + k % nc, none⟩) hbc).trans hcc
              have hmod : (k : Int) % (nc : Int) = ((k % nc : Nat) : Int) := by omega
              obtain ⟨km, hkme⟩ : ∃ m, k % nc = m := ⟨_, rfl⟩
              rw [hkme] at hccw hmod hkm
              clear hcue hcc hkm' hkme
              by_cases hc12 : cu < 30
              · have hct := (Nz.Cut_any HT6.out.chip (cu : Int) (by omega) (by omega)).mono (fun e w' ⟨he, hc, ht⟩ => (⟨he, HT6.out.two hc ht, HY6.out.two HAP.out ht⟩ : (∃ v, e = Ending.returned v) ∧ Ts w X D R E C P itz (d.cut cu) w' ∧ Bytes w' (.slice a6 nb cp6) bz))
                have hd12 : decide ((cu : Int) < 30) = true := by simp; omega
                have HST := hidOf2 (HK.out.step (d.cut cu) (.inr ⟨cu, by omega, rfl⟩) bz hbl)
                rcases HST.out with ⟨hes, hkf⟩ | ⟨hes, hkf⟩
                · have HKF := hidOf2 hkf
                  have HSF : Hid (SdI true l bz) := fun _ => HSD2.out
                  clear hkf HS HK HST
                  go_wp2_with (first | (go_at_call 8; refine hrm.mono ?_; rintro e x1 ⟨rfl, hx1⟩; rw [hx1]; clear hx1 x1) | (go_at_call 9; refine hct.mono ?_; clear hct; rintro e w7 ⟨⟨v7, rfl⟩, t7, y7⟩; have hsc := HSC.out _ w7 t7 y7; clear t7 y7) | (go_at_call 10; rw [hes] at hsc; refine hsc.mono ?_; clear hsc; rintro e w8 ⟨rfl, t8, y8⟩; have htx8 := y8.text; have hpw := HPW.out _ w8 t8; try rw [HNB.out] at htx8; clear t8 y8) | (go_at_call 11; refine hpw.mono ?_; clear hpw; rintro e w9 ⟨⟨v9, rfl⟩, t9⟩; have HT9 := hidOf2 t9; clear t9; have bB : Below w9.heap.size w9 (w9.alloc (.cells #[] 64)) := (Below.refl _ _).alloc (Nat.le_refl _) _; have hWa := HW0.out.same (Nat.le_trans HT9.out.below.size bB.size) (fun b _ hl => (bB.block b (Nat.lt_of_lt_of_le hl HT9.out.below.size)).trans (HT9.out.below.block b hl)); have hown := own0E w9) | (refine bs0E rfl rfl ?_) | (refine apE rfl _ _ rfl w9.heap.size (.slice (some ⟨w9.heap.size, 0, none⟩) 0 0) [] rfl hown _ l rfl hWa (by simpa using hn0) bB.size ?_; intro v2 w10 P2 G2; rw [List.nil_append] at P2))
                  have hlen := (chkL_ok hc).1
                  have b2 : Below w9.heap.size w9 w10 := bB.grown G2 bB.size (own_lt hown)
                  have HT10 := hidOf2 (HT9.out.next b2)
                  have hN := (oNew_any v2 l w10 (wide_of_own DE P2) (by omega)).mono (fun _ _ h => h.2 hc)
                  clear P2 G2 hown hWa bB HT9 b2
                  refine hN.mono ?_
                  rintro e w11 ⟨D2, R2, its2, rfl, N2⟩
                  have HT11 := hidOf2 (HT10.out.next N2.below)
                  have HDIS := hidOf2 (show ∀ b ∈ itz.map Im.b, b ∉ its2.map Im.b from fun b hb h2 => by
                    obtain ⟨i, hi, rfl⟩ := List.mem_map.1 hb
                    obtain ⟨i2, hi2, e2⟩ := List.mem_map.1 h2
                    have := (HT10.out.dct.items i hi).lt
                    have := N2.base i2 hi2
                    omega)
                  have HBS := hidOf2 (show ∀ b ∈ its2.map Im.b, w.heap.size ≤ b from fun b hb => by
                    obtain ⟨i, hi, rfl⟩ := List.mem_map.1 hb
                    exact Nat.le_trans HT10.out.below.size (N2.base i hi))
                  have HN2 := hidOf2 N2
                  have hld := Nz.Load_any HT11.out.chip
                  rw [HKF.out.kept, ← HKF.out.any] at hld
                  clear hN N2 HT10
                  go_wp2_with fail
                  refine hld.mono ?_
                  rintro e w12 ⟨v12, rfl, hv12, hb12, hf12⟩
                  have HT12 := hidOf2 (HT11.out.next hb12)
                  have HD12 := hidOf2 (HN2.out.dct.below hb12)
                  have HV12 := hidOf2 hv12
                  have HF12 := hidOf2 hf12
                  obtain ⟨a12, cp12, hv⟩ := bytes_shape hv12
                  subst hv
                  have tx12 := hv12.text
                  clear hld hv12 hb12 hf12 HT11
                  have HSL := hidOf2 (show Sd l bz from HSF.out rfl)
                  obtain ⟨kc, ks⟩ := HSL.out.load HN2.out
                  have hkll : bz.length ≤ 2040 := by obtain ⟨_, _, _, _, _, h⟩ := HSL.out; exact h
                  have hLd := Load_any HD12.out _ bz HV12.out (fun ao n c e => (HF12.out ao n c e).1) (by omega)
                  rw [kc] at hLd
                  have HKS := hidOf2 ks
                  clear kc ks HN2
                  go_wp2_with fail
                  refine hLd.mono ?_
                  rintro e w13 ⟨rfl, D13, K13⟩
                  have HT13 := hidOf2 (HT12.out.other HD12.out K13 HDIS.out HBS.out)
                  have hS2 := Save_any D13
                  rw [HKS.out] at hS2
                  clear hLd D13 K13 HT12 HD12 HDIS HBS HV12 HF12
                  go_wp2_with fail
                  refine hS2.mono ?_
                  rintro e w14 ⟨v14, rfl, P14, b14⟩
                  have HT14 := hidOf2 (HT13.out.next b14)
                  have tx14 := (bytes_of_own P14).text
                  obtain ⟨a14, cp14, hv14⟩ := own_shape5 P14
                  subst hv14
                  clear hS2 P14 b14 HT13
                  go_wp2
                  go_roundw
                  case rel => exact ⟨k + 1, itz, _, true, bz, by omega, by omega, by go_num, rfl, rfl, HT14, HO5, HP5, HKF, HSF⟩
                  case measure => simp [intOf]; omega
                · have HKF := hidOf2 hkf
                  have HSF := HS
                  clear hkf HS HK HST
                  go_wp2_with (first | (go_at_call 8; refine hrm.mono ?_; rintro e x1 ⟨rfl, hx1⟩; rw [hx1]; clear hx1 x1) | (go_at_call 9; refine hct.mono ?_; clear hct; rintro e w7 ⟨⟨v7, rfl⟩, t7, y7⟩; have hsc := HSC.out _ w7 t7 y7; clear t7 y7) | (go_at_call 10; rw [hes] at hsc; refine hsc.mono ?_; clear hsc; rintro e w8 ⟨rfl, t8, y8⟩; have htx8 := y8.text; have hpw := HPW.out _ w8 t8; try rw [HNB.out] at htx8; clear t8 y8) | (go_at_call 11; refine hpw.mono ?_; clear hpw; rintro e w9 ⟨⟨v9, rfl⟩, t9⟩; have HT9 := hidOf2 t9; clear t9; have bB : Below w9.heap.size w9 (w9.alloc (.cells #[] 64)) := (Below.refl _ _).alloc (Nat.le_refl _) _; have hWa := HW0.out.same (Nat.le_trans HT9.out.below.size bB.size) (fun b _ hl => (bB.block b (Nat.lt_of_lt_of_le hl HT9.out.below.size)).trans (HT9.out.below.block b hl)); have hown := own0E w9) | (refine bs0E rfl rfl ?_) | (refine apE rfl _ _ rfl w9.heap.size (.slice (some ⟨w9.heap.size, 0, none⟩) 0 0) [] rfl hown _ l rfl hWa (by simpa using hn0) bB.size ?_; intro v2 w10 P2 G2; rw [List.nil_append] at P2))
                  have hlen := (chkL_ok hc).1
                  have b2 : Below w9.heap.size w9 w10 := bB.grown G2 bB.size (own_lt hown)
                  have HT10 := hidOf2 (HT9.out.next b2)
                  have hN := (oNew_any v2 l w10 (wide_of_own DE P2) (by omega)).mono (fun _ _ h => h.2 hc)
                  clear P2 G2 hown hWa bB HT9 b2
                  refine hN.mono ?_
                  rintro e w11 ⟨D2, R2, its2, rfl, N2⟩
                  have HT11 := hidOf2 (HT10.out.next N2.below)
                  have HDIS := hidOf2 (show ∀ b ∈ itz.map Im.b, b ∉ its2.map Im.b from fun b hb h2 => by
                    obtain ⟨i, hi, rfl⟩ := List.mem_map.1 hb
                    obtain ⟨i2, hi2, e2⟩ := List.mem_map.1 h2
                    have := (HT10.out.dct.items i hi).lt
                    have := N2.base i2 hi2
                    omega)
                  have HBS := hidOf2 (show ∀ b ∈ its2.map Im.b, w.heap.size ≤ b from fun b hb => by
                    obtain ⟨i, hi, rfl⟩ := List.mem_map.1 hb
                    exact Nat.le_trans HT10.out.below.size (N2.base i hi))
                  have HN2 := hidOf2 N2
                  have hld := Nz.Load_any HT11.out.chip
                  rw [HKF.out.kept, ← HKF.out.any] at hld
                  clear hN N2 HT10
                  go_wp2_with fail
                  refine hld.mono ?_
                  rintro e w12 ⟨v12, rfl, hv12, hb12, hf12⟩
                  have HT12 := hidOf2 (HT11.out.next hb12)
                  have HD12 := hidOf2 (HN2.out.dct.below hb12)
                  have HV12 := hidOf2 hv12
                  have HF12 := hidOf2 hf12
                  obtain ⟨a12, cp12, hv⟩ := bytes_shape hv12
                  subst hv
                  have tx12 := hv12.text
                  clear hld hv12 hb12 hf12 HT11
                  cases an
                  · go_wp2
                    go_roundw
                    case rel => exact ⟨k + 1, itz, _, _, kl, by omega, by omega, by go_num, rfl, rfl, HT12, HO5, HP5, HKF, HSF⟩
                    case measure => simp [intOf]; omega
                  · have HSL := hidOf2 (show Sd l kl from HSF.out rfl)
                    obtain ⟨kc, ks⟩ := HSL.out.load HN2.out
                    have hkll : kl.length ≤ 2040 := by obtain ⟨_, _, _, _, _, h⟩ := HSL.out; exact h
                    have hLd := Load_any HD12.out _ kl HV12.out (fun ao n c e => (HF12.out ao n c e).1) (by omega)
                    rw [kc] at hLd
                    have HKS := hidOf2 ks
                    clear kc ks HN2
                    go_wp2_with fail
                    refine hLd.mono ?_
                    rintro e w13 ⟨rfl, D13, K13⟩
                    have HT13 := hidOf2 (HT12.out.other HD12.out K13 HDIS.out HBS.out)
                    have hS2 := Save_any D13
                    rw [HKS.out] at hS2
                    clear hLd D13 K13 HT12 HD12 HDIS HBS HV12 HF12
                    go_wp2_with fail
                    refine hS2.mono ?_
                    rintro e w14 ⟨v14, rfl, P14, b14⟩
                    have HT14 := hidOf2 (HT13.out.next b14)
                    have tx14 := (bytes_of_own P14).text
                    obtain ⟨a14, cp14, hv14⟩ := own_shape5 P14
                    subst hv14
                    clear hS2 P14 b14 HT13
                    go_wp2
                    go_roundw
                    case rel => exact ⟨k + 1, itz, _, _, kl, by omega, by omega, by go_num, rfl, rfl, HT14, HO5, HP5, HKF, HSF⟩
                    case measure => simp [intOf]; omega
              · have hd12 : decide ((cu : Int) < 30) = false := by simp; omega
                have hsc := HSC.out d w6 HT6.out HY6.out
                have HST := hidOf2 (HK.out.step d (.inl rfl) bz hbl)
                rcases HST.out with ⟨hes, hkf⟩ | ⟨hes, hkf⟩
                · have HKF := hidOf2 hkf
                  have HSF : Hid (SdI true l bz) := fun _ => HSD2.out
                  clear hkf HS HK HST
                  go_wp2_with (first | (go_at_call 8; refine hrm.mono ?_; rintro e x1 ⟨rfl, hx1⟩; rw [hx1]; clear hx1 x1) | (go_at_call 10; rw [hes] at hsc; refine hsc.mono ?_; clear hsc; rintro e w8 ⟨rfl, t8, y8⟩; have htx8 := y8.text; have hpw := HPW.out _ w8 t8; try rw [HNB.out] at htx8; clear t8 y8) | (go_at_call 11; refine hpw.mono ?_; clear hpw; rintro e w9 ⟨⟨v9, rfl⟩, t9⟩; have HT9 := hidOf2 t9; clear t9; have bB : Below w9.heap.size w9 (w9.alloc (.cells #[] 64)) := (Below.refl _ _).alloc (Nat.le_refl _) _; have hWa := HW0.out.same (Nat.le_trans HT9.out.below.size bB.size) (fun b _ hl => (bB.block b (Nat.lt_of_lt_of_le hl HT9.out.below.size)).trans (HT9.out.below.block b hl)); have hown := own0E w9) | (refine bs0E rfl rfl ?_) | (refine apE rfl _ _ rfl w9.heap.size (.slice (some ⟨w9.heap.size, 0, none⟩) 0 0) [] rfl hown _ l rfl hWa (by simpa using hn0) bB.size ?_; intro v2 w10 P2 G2; rw [List.nil_append] at P2))
                  have hlen := (chkL_ok hc).1
                  have b2 : Below w9.heap.size w9 w10 := bB.grown G2 bB.size (own_lt hown)
                  have HT10 := hidOf2 (HT9.out.next b2)
                  have hN := (oNew_any v2 l w10 (wide_of_own DE P2) (by omega)).mono (fun _ _ h => h.2 hc)
                  clear P2 G2 hown hWa bB HT9 b2
                  refine hN.mono ?_
                  rintro e w11 ⟨D2, R2, its2, rfl, N2⟩
                  have HT11 := hidOf2 (HT10.out.next N2.below)
                  have HDIS := hidOf2 (show ∀ b ∈ itz.map Im.b, b ∉ its2.map Im.b from fun b hb h2 => by
                    obtain ⟨i, hi, rfl⟩ := List.mem_map.1 hb
                    obtain ⟨i2, hi2, e2⟩ := List.mem_map.1 h2
                    have := (HT10.out.dct.items i hi).lt
                    have := N2.base i2 hi2
                    omega)
                  have HBS := hidOf2 (show ∀ b ∈ its2.map Im.b, w.heap.size ≤ b from fun b hb => by
                    obtain ⟨i, hi, rfl⟩ := List.mem_map.1 hb
                    exact Nat.le_trans HT10.out.below.size (N2.base i hi))
                  have HN2 := hidOf2 N2
                  have hld := Nz.Load_any HT11.out.chip
                  rw [HKF.out.kept, ← HKF.out.any] at hld
                  clear hN N2 HT10
                  go_wp2_with fail
                  refine hld.mono ?_
                  rintro e w12 ⟨v12, rfl, hv12, hb12, hf12⟩
                  have HT12 := hidOf2 (HT11.out.next hb12)
                  have HD12 := hidOf2 (HN2.out.dct.below hb12)
                  have HV12 := hidOf2 hv12
                  have HF12 := hidOf2 hf12
                  obtain ⟨a12, cp12, hv⟩ := bytes_shape hv12
                  subst hv
                  have tx12 := hv12.text
                  clear hld hv12 hb12 hf12 HT11
                  have HSL := hidOf2 (show Sd l bz from HSF.out rfl)
                  obtain ⟨kc, ks⟩ := HSL.out.load HN2.out
                  have hkll : bz.length ≤ 2040 := by obtain ⟨_, _, _, _, _, h⟩ := HSL.out; exact h
                  have hLd := Load_any HD12.out _ bz HV12.out (fun ao n c e => (HF12.out ao n c e).1) (by omega)
                  rw [kc] at hLd
                  have HKS := hidOf2 ks
                  clear kc ks HN2
                  go_wp2_with fail
                  refine hLd.mono ?_
                  rintro e w13 ⟨rfl, D13, K13⟩
                  have HT13 := hidOf2 (HT12.out.other HD12.out K13 HDIS.out HBS.out)
                  have hS2 := Save_any D13
                  rw [HKS.out] at hS2
                  clear hLd D13 K13 HT12 HD12 HDIS HBS HV12 HF12
                  go_wp2_with fail
                  refine hS2.mono ?_
                  rintro e w14 ⟨v14, rfl, P14, b14⟩
                  have HT14 := hidOf2 (HT13.out.next b14)
                  have tx14 := (bytes_of_own P14).text
                  obtain ⟨a14, cp14, hv14⟩ := own_shape5 P14
                  subst hv14
                  clear hS2 P14 b14 HT13
                  go_wp2
                  go_roundw
                  case rel => exact ⟨k + 1, itz, _, true, bz, by omega, by omega, by go_num, rfl, rfl, HT14, HO5, HP5, HKF, HSF⟩
                  case measure => simp [intOf]; omega
                · have HKF := hidOf2 hkf
                  have HSF := HS
                  clear hkf HS HK HST
                  go_wp2_with (first | (go_at_call 8; refine hrm.mono ?_; rintro e x1 ⟨rfl, hx1⟩; rw [hx1]; clear hx1 x1) | (go_at_call 10; rw [hes] at hsc; refine hsc.mono ?_; clear hsc; rintro e w8 ⟨rfl, t8, y8⟩; have htx8 := y8.text; have hpw := HPW.out _ w8 t8; try rw [HNB.out] at htx8; clear t8 y8) | (go_at_call 11; refine hpw.mono ?_; clear hpw; rintro e w9 ⟨⟨v9, rfl⟩, t9⟩; have HT9 := hidOf2 t9; clear t9; have bB : Below w9.heap.size w9 (w9.alloc (.cells #[] 64)) := (Below.refl _ _).alloc (Nat.le_refl _) _; have hWa := HW0.out.same (Nat.le_trans HT9.out.below.size bB.size) (fun b _ hl => (bB.block b (Nat.lt_of_lt_of_le hl HT9.out.below.size)).trans (HT9.out.below.block b hl)); have hown := own0E w9) | (refine bs0E rfl rfl ?_) | (refine apE rfl _ _ rfl w9.heap.size (.slice (some ⟨w9.heap.size, 0, none⟩) 0 0) [] rfl hown _ l rfl hWa (by simpa using hn0) bB.size ?_; intro v2 w10 P2 G2; rw [List.nil_append] at P2))
                  have hlen := (chkL_ok hc).1
                  have b2 : Below w9.heap.size w9 w10 := bB.grown G2 bB.size (own_lt hown)
                  have HT10 := hidOf2 (HT9.out.next b2)
                  have hN := (oNew_any v2 l w10 (wide_of_own DE P2) (by omega)).mono (fun _ _ h => h.2 hc)
                  clear P2 G2 hown hWa bB HT9 b2
                  refine hN.mono ?_
                  rintro e w11 ⟨D2, R2, its2, rfl, N2⟩
                  have HT11 := hidOf2 (HT10.out.next N2.below)
                  have HDIS := hidOf2 (show ∀ b ∈ itz.map Im.b, b ∉ its2.map Im.b from fun b hb h2 => by
                    obtain ⟨i, hi, rfl⟩ := List.mem_map.1 hb
                    obtain ⟨i2, hi2, e2⟩ := List.mem_map.1 h2
                    have := (HT10.out.dct.items i hi).lt
                    have := N2.base i2 hi2
                    omega)
                  have HBS := hidOf2 (show ∀ b ∈ its2.map Im.b, w.heap.size ≤ b from fun b hb => by
                    obtain ⟨i, hi, rfl⟩ := List.mem_map.1 hb
                    exact Nat.le_trans HT10.out.below.size (N2.base i hi))
                  have HN2 := hidOf2 N2
                  have hld := Nz.Load_any HT11.out.chip
                  rw [HKF.out.kept, ← HKF.out.any] at hld
                  clear hN N2 HT10
                  go_wp2_with fail
                  refine hld.mono ?_
                  rintro e w12 ⟨v12, rfl, hv12, hb12, hf12⟩
                  have HT12 := hidOf2 (HT11.out.next hb12)
                  have HD12 := hidOf2 (HN2.out.dct.below hb12)
                  have HV12 := hidOf2 hv12
                  have HF12 := hidOf2 hf12
                  obtain ⟨a12, cp12, hv⟩ := bytes_shape hv12
                  subst hv
                  have tx12 := hv12.text
                  clear hld hv12 hb12 hf12 HT11
                  cases an
                  · go_wp2
                    go_roundw
                    case rel => exact ⟨k + 1, itz, _, _, kl, by omega, by omega, by go_num, rfl, rfl, HT12, HO5, HP5, HKF, HSF⟩
                    case measure => simp [intOf]; omega
                  · have HSL := hidOf2 (show Sd l kl from HSF.out rfl)
                    obtain ⟨kc, ks⟩ := HSL.out.load HN2.out
                    have hkll : kl.length ≤ 2040 := by obtain ⟨_, _, _, _, _, h⟩ := HSL.out; exact h
                    have hLd := Load_any HD12.out _ kl HV12.out (fun ao n c e => (HF12.out ao n c e).1) (by omega)
                    rw [kc] at hLd
                    have HKS := hidOf2 ks
                    clear kc ks HN2
                    go_wp2_with fail
                    refine hLd.mono ?_
                    rintro e w13 ⟨rfl, D13, K13⟩
                    have HT13 := hidOf2 (HT12.out.other HD12.out K13 HDIS.out HBS.out)
                    have hS2 := Save_any D13
                    rw [HKS.out] at hS2
                    clear hLd D13 K13 HT12 HD12 HDIS HBS HV12 HF12
                    go_wp2_with fail
                    refine hS2.mono ?_
                    rintro e w14 ⟨v14, rfl, P14, b14⟩
                    have HT14 := hidOf2 (HT13.out.next b14)
                    have tx14 := (bytes_of_own P14).text
                    obtain ⟨a14, cp14, hv14⟩ := own_shape5 P14
                    subst hv14
                    clear hS2 P14 b14 HT13
                    go_wp2
                    go_roundw
                    case rel => exact ⟨k + 1, itz, _, _, kl, by omega, by omega, by go_num, rfl, rfl, HT14, HO5, HP5, HKF, HSF⟩
                    case measure => simp [intOf]; omega
            · have hdc : decide ((0 : Int) < (nc : Int)) = false := by simp; omega
              obtain rfl : nc = 0 := by omega
              have hsc := HSC.out d w6 HT6.out HY6.out
              have HST := hidOf2 (HK.out.step d (.inl rfl) bz hbl)
              rcases HST.out with ⟨hes, hkf⟩ | ⟨hes, hkf⟩
              · have HKF := hidOf2 hkf
                have HSF : Hid (SdI true l bz) := fun _ => HSD2.out
                clear hkf HS HK HST
                go_wp2_with (first | (go_at_call 8; refine hrm.mono ?_; rintro e x1 ⟨rfl, hx1⟩; rw [hx1]; clear hx1 x1) | (go_at_call 10; rw [hes] at hsc; refine hsc.mono ?_; clear hsc; rintro e w8 ⟨rfl, t8, y8⟩; have htx8 := y8.text; have hpw := HPW.out _ w8 t8; try rw [HNB.out] at htx8; clear t8 y8) | (go_at_call 11; refine hpw.mono ?_; clear hpw; rintro e w9 ⟨⟨v9, rfl⟩, t9⟩; have HT9 := hidOf2 t9; clear t9; have bB : Below w9.heap.size w9 (w9.alloc (.cells #[] 64)) := (Below.refl _ _).alloc (Nat.le_refl _) _; have hWa := HW0.out.same (Nat.le_trans HT9.out.below.size bB.size) (fun b _ hl => (bB.block b (Nat.lt_of_lt_of_le hl HT9.out.below.size)).trans (HT9.out.below.block b hl)); have hown := own0E w9) | (refine bs0E rfl rfl ?_) | (refine apE rfl _ _ rfl w9.heap.size (.slice (some ⟨w9.heap.size, 0, none⟩) 0 0) [] rfl hown _ l rfl hWa (by simpa using hn0) bB.size ?_; intro v2 w10 P2 G2; rw [List.nil_append] at P2))
                have hlen := (chkL_ok hc).1
                have b2 : Below w9.heap.size w9 w10 := bB.grown G2 bB.size (own_lt hown)
                have HT10 := hidOf2 (HT9.out.next b2)
                have hN := (oNew_any v2 l w10 (wide_of_own DE P2) (by omega)).mono (fun _ _ h => h.2 hc)
                clear P2 G2 hown hWa bB HT9 b2
                refine hN.mono ?_
                rintro e w11 ⟨D2, R2, its2, rfl, N2⟩
                have HT11 := hidOf2 (HT10.out.next N2.below)
                have HDIS := hidOf2 (show ∀ b ∈ itz.map Im.b, b ∉ its2.map Im.b from fun b hb h2 => by
                  obtain ⟨i, hi, rfl⟩ := List.mem_map.1 hb
                  obtain ⟨i2, hi2, e2⟩ := List.mem_map.1 h2
                  have := (HT10.out.dct.items i hi).lt
                  have := N2.base i2 hi2
                  omega)
                have HBS := hidOf2 (show ∀ b ∈ its2.map Im.b, w.heap.size ≤ b from fun b hb => by
                  obtain ⟨i, hi, rfl⟩ := List.mem_map.1 hb
                  exact Nat.le_trans HT10.out.below.size (N2.base i hi))
                have HN2 := hidOf2 N2
                have hld := Nz.Load_any HT11.out.chip
                rw [HKF.out.kept, ← HKF.out.any] at hld
                clear hN N2 HT10
                go_wp2_with fail
                refine hld.mono ?_
                rintro e w12 ⟨v12, rfl, hv12, hb12, hf12⟩
                have HT12 := hidOf2 (HT11.out.next hb12)
                have HD12 := hidOf2 (HN2.out.dct.below hb12)
                have HV12 := hidOf2 hv12
                have HF12 := hidOf2 hf12
                obtain ⟨a12, cp12, hv⟩ := bytes_shape hv12
                subst hv
                have tx12 := hv12.text
                clear hld hv12 hb12 hf12 HT11
                have HSL := hidOf2 (show Sd l bz from HSF.out rfl)
                obtain ⟨kc, ks⟩ := HSL.out.load HN2.out
                have hkll : bz.length ≤ 2040 := by obtain ⟨_, _, _, _, _, h⟩ := HSL.out; exact h
                have hLd := Load_any HD12.out _ bz HV12.out (fun ao n c e => (HF12.out ao n c e).1) (by omega)
                rw [kc] at hLd
                have HKS := hidOf2 ks
                clear kc ks HN2
                go_wp2_with fail
                refine hLd.mono ?_
                rintro e w13 ⟨rfl, D13, K13⟩
                have HT13 := hidOf2 (HT12.out.other HD12.out K13 HDIS.out HBS.out)
                have hS2 := Save_any D13
                rw [HKS.out] at hS2
                clear hLd D13 K13 HT12 HD12 HDIS HBS HV12 HF12
                go_wp2_with fail
                refine hS2.mono ?_
                rintro e w14 ⟨v14, rfl, P14, b14⟩
                have HT14 := hidOf2 (HT13.out.next b14)
                have tx14 := (bytes_of_own P14).text
                obtain ⟨a14, cp14, hv14⟩ := own_shape5 P14
                subst hv14
                clear hS2 P14 b14 HT13
                go_wp2
                go_roundw
                case rel => exact ⟨k + 1, itz, _, true, bz, by omega, by omega, by go_num, rfl, rfl, HT14, HO5, HP5, HKF, HSF⟩
                case measure => simp [intOf]; omega
              · have HKF := hidOf2 hkf
                have HSF := HS
                clear hkf HS HK HST
                go_wp2_with (first | (go_at_call 8; refine hrm.mono ?_; rintro e x1 ⟨rfl, hx1⟩; rw [hx1]; clear hx1 x1) | (go_at_call 10; rw [hes] at hsc; refine hsc.mono ?_; clear hsc; rintro e w8 ⟨rfl, t8, y8⟩; have htx8 := y8.text; have hpw := HPW.out _ w8 t8; try rw [HNB.out] at htx8; clear t8 y8) | (go_at_call 11; refine hpw.mono ?_; clear hpw; rintro e w9 ⟨⟨v9, rfl⟩, t9⟩; have HT9 := hidOf2 t9; clear t9; have bB : Below w9.heap.size w9 (w9.alloc (.cells #[] 64)) := (Below.refl _ _).alloc (Nat.le_refl _) _; have hWa := HW0.out.same (Nat.le_trans HT9.out.below.size bB.size) (fun b _ hl => (bB.block b (Nat.lt_of_lt_of_le hl HT9.out.below.size)).trans (HT9.out.below.block b hl)); have hown := own0E w9) | (refine bs0E rfl rfl ?_) | (refine apE rfl _ _ rfl w9.heap.size (.slice (some ⟨w9.heap.size, 0, none⟩) 0 0) [] rfl hown _ l rfl hWa (by simpa using hn0) bB.size ?_; intro v2 w10 P2 G2; rw [List.nil_append] at P2))
                have hlen := (chkL_ok hc).1
                have b2 : Below w9.heap.size w9 w10 := bB.grown G2 bB.size (own_lt hown)
                have HT10 := hidOf2 (HT9.out.next b2)
                have hN := (oNew_any v2 l w10 (wide_of_own DE P2) (by omega)).mono (fun _ _ h => h.2 hc)
                clear P2 G2 hown hWa bB HT9 b2
                refine hN.mono ?_
                rintro e w11 ⟨D2, R2, its2, rfl, N2⟩
                have HT11 := hidOf2 (HT10.out.next N2.below)
                have HDIS := hidOf2 (show ∀ b ∈ itz.map Im.b, b ∉ its2.map Im.b from fun b hb h2 => by
                  obtain ⟨i, hi, rfl⟩ := List.mem_map.1 hb
                  obtain ⟨i2, hi2, e2⟩ := List.mem_map.1 h2
                  have := (HT10.out.dct.items i hi).lt
                  have := N2.base i2 hi2
                  omega)
                have HBS := hidOf2 (show ∀ b ∈ its2.map Im.b, w.heap.size ≤ b from fun b hb => by
                  obtain ⟨i, hi, rfl⟩ := List.mem_map.1 hb
                  exact Nat.le_trans HT10.out.below.size (N2.base i hi))
                have HN2 := hidOf2 N2
                have hld := Nz.Load_any HT11.out.chip
                rw [HKF.out.kept, ← HKF.out.any] at hld
                clear hN N2 HT10
                go_wp2_with fail
                refine hld.mono ?_
                rintro e w12 ⟨v12, rfl, hv12, hb12, hf12⟩
                have HT12 := hidOf2 (HT11.out.next hb12)
                have HD12 := hidOf2 (HN2.out.dct.below hb12)
                have HV12 := hidOf2 hv12
                have HF12 := hidOf2 hf12
                obtain ⟨a12, cp12, hv⟩ := bytes_shape hv12
                subst hv
                have tx12 := hv12.text
                clear hld hv12 hb12 hf12 HT11
                cases an
                · go_wp2
                  go_roundw
                  case rel => exact ⟨k + 1, itz, _, _, kl, by omega, by omega, by go_num, rfl, rfl, HT12, HO5, HP5, HKF, HSF⟩
                  case measure => simp [intOf]; omega
                · have HSL := hidOf2 (show Sd l kl from HSF.out rfl)
                  obtain ⟨kc, ks⟩ := HSL.out.load HN2.out
                  have hkll : kl.length ≤ 2040 := by obtain ⟨_, _, _, _, _, h⟩ := HSL.out; exact h
                  have hLd := Load_any HD12.out _ kl HV12.out (fun ao n c e => (HF12.out ao n c e).1) (by omega)
                  rw [kc] at hLd
                  have HKS := hidOf2 ks
                  clear kc ks HN2
                  go_wp2_with fail
                  refine hLd.mono ?_
                  rintro e w13 ⟨rfl, D13, K13⟩
                  have HT13 := hidOf2 (HT12.out.other HD12.out K13 HDIS.out HBS.out)
                  have hS2 := Save_any D13
                  rw [HKS.out] at hS2
                  clear hLd D13 K13 HT12 HD12 HDIS HBS HV12 HF12
                  go_wp2_with fail
                  refine hS2.mono ?_
                  rintro e w14 ⟨v14, rfl, P14, b14⟩
                  have HT14 := hidOf2 (HT13.out.next b14)
                  have tx14 := (bytes_of_own P14).text
                  obtain ⟨a14, cp14, hv14⟩ := own_shape5 P14
                  subst hv14
                  clear hS2 P14 b14 HT13
                  go_wp2
                  go_roundw
                  case rel => exact ⟨k + 1, itz, _, _, kl, by omega, by omega, by go_num, rfl, rfl, HT14, HO5, HP5, HKF, HSF⟩
                  case measure => simp [intOf]; omega
        · have hd2 : decide ((k : Int) < 12) = false := by simp; omega
          go_wp2
          go_ret
          exact ⟨rfl, HT.out.below⟩
      · have hd1 : decide ((k : Int) < (na : Int)) = false := by simp; omega
        go_wp2
        go_ret
        exact ⟨rfl, HT.out.below⟩
  · obtain rfl := HB2.out hc
    go_wp2
    go_ret
    exact ⟨rfl, B1⟩
end Go.Proofs.YtjlbahgjjdfaeaaGreat
namespace Go.Proofs.YtjlbahgjjdfaeaaGreat
open Go.ChangeShapes Go.WideShapes Go.ChangeAt Go.RowKit Go.Proofs.Ty
open Go.ChangeMaps (open_string shut_string)
set_option linter.unusedVariables false
set_option maxRecDepth 1000000

set_option maxRecDepth 100000 in
theorem topStore_lifted (os : Os) (started : os.Started) (H : Type) (enc : TypeId × Value → H) :
    ReturnsInHanded {} Tryz.checked os 3 .any (Rows.topStoreSpec.pre6 enc Tryz.prog Tryz.f3 Rows.topStoreRow.domain false) (Rows.topStoreSpec.post enc Tryz.prog Tryz.f3 false true false false) := by
  refine returnsInHanded_of_change_sized (C := Tryz.checked) own started (by kernel_rfl) Tryz.func3
    (ChangeSpec.witness6 (enc := enc) (C := Tryz.checked) false ⟨#[], #[.slice none 0 0, .slice none 0 0, .slice none 0 0], []⟩ 8 (by kernel_rfl) (by kernel_rfl) (by kernel_rfl) (by kernel_rfl)) ?_
  intro W base args ds gs before hval0 hW hcnd hsz _
  have hval : ∀ (j : Nat) t v, Tryz.f3.params[j]? = some t → args[j]? = some v → Value.okWide Tryz.prog W .any base t v := hval0
  have hW' := hW
  obtain ⟨p, q, hA0, hV, rfl, hfz, hnd⟩ := hW
  have hA : DataW.TrodAll enc Tryz.prog W 0 (fun _ => true) true Tryz.f3.params.toList args.toList ds p := hA0
  rw [Tryz.params3] at hA hval hsz
  obtain ⟨v0, vs0, d0, ds0, p0, q0, hargs, rfl, rfl, h0, r0⟩ := trodAll_cons hA
  obtain ⟨v1, vs1, d1, ds1, p1, q1, rfl, rfl, rfl, h1, r1⟩ := trodAll_cons r0
  obtain ⟨v2, vs2, d2, ds2, p2, q2, rfl, rfl, rfl, h2, r2⟩ := trodAll_cons r1
  obtain ⟨rfl, rfl, rfl⟩ := trodAll_nil r2
  obtain rfl : args = #[v0, v1, v2] := by cases args; simp_all
  obtain ⟨rfl, rfl⟩ := trodVars_none hV
  have lt0 : ∀ x ∈ p0, x.block < W.heap.size := by obtain ⟨m, hm⟩ := h0; exact DataW.trod_lt m _ _ _ hm
  obtain ⟨l0, w0, e0⟩ := open_entries (hval 0 22 v0 rfl rfl) h0 lt0
  have z0 := size_entries (j := 0) hsz rfl rfl e0
  have lt1 : ∀ x ∈ p1, x.block < W.heap.size := by obtain ⟨m, hm⟩ := h1; exact DataW.trod_lt m _ _ _ hm
  obtain ⟨l1, w1, e1⟩ := open_asks (hval 1 23 v1 rfl rfl) h1 lt1
  have z1 := size_asks (j := 1) hsz rfl rfl e1
  have lt2 : ∀ x ∈ p2, x.block < W.heap.size := by obtain ⟨m, hm⟩ := h2; exact DataW.trod_lt m _ _ _ hm
  obtain ⟨l2, w2, e2⟩ := open_bytes (hval 2 24 v2 rfl rfl) h2 lt2
  have z2 := size_bytes (j := 2) hsz rfl rfl e2
  clear hA0 hval0
  refine (tstore_walk v0 v1 v2 l0 l1 l2 W w0 w1 w2 z0 z1.1 z2 z1.2).mono fun e W' ⟨he, bel⟩ => ?_
  subst he
  exact ⟨_, rfl, _, _, _, [], _, [], hW', trodAll_mk1 (shut_bool Tryz.underlying4 _), (trodAll_cons_mk (Below.trod laidOut (by kernel_rfl) (of_decide_eq_true (by kernel_rfl)) h0 bel lt0) (trodAll_cons_mk (Below.trod laidOut (by kernel_rfl) (of_decide_eq_true (by kernel_rfl)) h1 bel lt1) (trodAll_cons_mk (Below.trod laidOut (by kernel_rfl) (of_decide_eq_true (by kernel_rfl)) h2 bel lt2) trodAll_mk0))), rfl, bel.frame _, fun h => by cases h⟩

theorem topStore_holds : Rows.TopStoreSaid :=
  OpenClaim.holds_of_wide 3 Tryz.f3 rfl rfl rfl rfl rfl rfl rfl ⟨rfl, rfl, rfl, rfl, rfl⟩ rfl rfl rfl rfl rfl (by kernel_rfl) Tryz.func3 (by kernel_rfl)
    (of_decide_eq_true (by kernel_rfl)) (by unfold Func.isWrapper; first | (rw [if_pos (by decide +kernel)]; kernel_rfl) | (rw [if_neg (by decide +kernel)]; exact ⟨rfl, rfl⟩))
    (fun os started H enc _ => topStore_lifted os started H enc)
end Go.Proofs.YtjlbahgjjdfaeaaGreat
