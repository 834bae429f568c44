/- The law OdKept holds: whatever entries and acts come in, what the dictionary saves, loaded into another one of the same entries, gives its ReadWrite entries the same values, and is saved again as it was; no condition. -/
import Derived.Test.YtdcogpadioeclaaXa2
import Derived.Test.YtdcogpadioeclaaTyO
import Derived.Test.YtdcogpadioeclaaOOc
namespace Go.Proofs.Ytdcogpadioeclaa
open Go.RowKit Go.Proofs.Ty Go.Sort Go.Lib
set_option linter.unusedVariables false
set_option maxRecDepth 1000000
set_option linter.unusedSimpArgs false
/-- A piece of the code, cut off behind it. -/
theorem wp_cut {α : Type} {c : Code} {a : Act} {w : World} {Q' : Exit → Act → World → Prop} (I : α → World → Prop) (F : Act → α → Act) (h1 : c.wp Try.prog (fun e b y => e = .normal ∧ ∃ u, b = F a u ∧ I u y) a w) (h2 : ∀ u y, I u y → Q' .normal (F a u) y) : c.wp Try.prog Q' a w :=
  Code.wp_mono (fun e b y h => by obtain ⟨rfl, u, rfl, hI⟩ := h; exact h2 u y hI) h1
/-- The first dictionary, of a pair, and another one. -/
structure Kz (w : World) (X D R E D2 R2 : Nat) (ia ib : List Im) (x : World) : Prop where
  d1 : Dct D R ia x
  d2 : Dct D2 R2 ib x
  pair : x.heap[X]? = some (.cells #[.pointer (some ⟨D, 0, none⟩), .pointer (some ⟨E, 0, none⟩)] 54 (0, 0))
  below : Below w.heap.size w x
section
variable {w : World} {X D R E D2 R2 : Nat} {ia ib : List Im} {x y : World}
theorem Kz.next (h : Kz w X D R E D2 R2 ia ib x) (hb : Below x.heap.size x y) : Kz w X D R E D2 R2 ia ib y :=
  ⟨h.d1.below hb, h.d2.below hb, (hb.block X (Array.getElem?_eq_some_iff.1 h.pair).1).trans h.pair, h.below.trans (hb.mono h.below.size)⟩
theorem Kz.cX (h : Kz w X D R E D2 R2 ia ib x) : x.cell? ⟨X, 0, none⟩ = some (.pointer (some ⟨D, 0, none⟩)) := Lib.cell_of_heap h.pair 0
theorem Kz.load {ib' : List Im} (h : Kz w X D R E D2 R2 ia ib x) (hd : Dct D2 R2 ib' y) (hK : Kp (ib.map Im.b) x y) (dis : ∀ b ∈ ia.map Im.b, b ∉ ib.map Im.b) (hB : ∀ b ∈ ib.map Im.b, w.heap.size ≤ b) : Kz w X D R E D2 R2 ia ib' y :=
  ⟨kp_dct h.d2 h.d1 hK dis, hd, kp_other h.d2 hK h.pair (by decide), hK.below h.below h.below.size hB⟩
end
theorem enterLv : ∀ args x, (callFunc 9 args).run Try.prog x = .ok (.enter 9 args) x := fun _ _ => by rfl
set_option maxHeartbeats 16000000 in
theorem okept_walk (v0 v1 : Value) (l : List En) (acts : List A8) (w : World) (h0 : Wide 14 enC w v0 l) (h1 : Wide 8 acC w v1 acts) (hn0 : l.length ≤ 1172812402927) (hn1 : acts.length ≤ 1759218604390) (hb : ∀ a ∈ acts, (Bytes w a.bv a.bl ∧ Cp a.bv) ∧ a.bl.length ≤ 140737488351232) :
    Calls Try.prog 5 #[v0, v1] w fun e w' => e = .returned (.bool true) ∧ Below w.heap.size w w' := by
  have HW0 := hidOf2 h0
  obtain ⟨ao0, cp0, rfl⟩ := h0.shape
  have hBg := Begins_any _ l w h0 hn0
  obtain ⟨ao1, cp1, rfl, _, hc1⟩ := h1
  have HCA : Hid (∀ (wr : World), Below w.heap.size w wr → ∀ k (hk : k < acts.length), ∃ b off, ao1 = some ⟨b, off, none⟩ ∧ b < w.heap.size ∧ wr.rangeAt b (off + k * 8) (acC acts[k])) := fun wr hb k hk => Wide.at hc1 hb k hk
  have HBA := hidOf2 hb
  have hL8 := lives8_any
  clear h0 hb hc1
  go_enter Try.func5, Try.ntmps5
  go_wp2_with fail
  refine hBg.mono ?_
  rintro e w1 ⟨B1, hbad, hgood⟩
  have HG := hidOf2 hgood
  have HB2 := hidOf2 hbad
  clear hBg hgood hbad
  by_cases hc : chkL l = 0
  · obtain ⟨X, D, R, E, its, vL, vV, rfl, N1⟩ := HG.out hc
    obtain ⟨hS0, hO0⟩ := Sm.start N1 hc
    have HS0 := hidOf2 hS0
    have HO0 := hidOf2 hO0
    have HP0 := hidOf2 N1.perm
    clear HG HB2 N1 hS0 hO0
    go_wp2
    go_loopw [7] (fun s7 x => ∃ (k : Nat) (its : List Im), k ≤ acts.length ∧ s7 = .int .i64 k ∧ Hid (Sm w X D R E its its x) ∧ Hid (∀ i ∈ its, Ok i) ∧ Hid ((its.map Im.e).Perm (l.map En.plain))) (fun s7 _ => acts.length - (intOf s7).toNat)
    case atStart => exact ⟨0, its, Nat.zero_le _, rfl, HS0, HO0, HP0⟩
    case round =>
      clear HS0 HO0 HP0
      obtain ⟨k, its, hk, rfl, HS, HO, HP⟩ := hrel
      by_cases hka : k < acts.length
      · obtain ⟨ab, ao, hao, hab, hR⟩ := HCA.out wr HS.out.below k hka
        subst hao
        obtain ⟨⟨hBy, hCp⟩, hbl⟩ := HBA.out acts[k] (List.getElem_mem hka)
        generalize acts[k] = A at *
        have hD := does_any HS.out HO.out A hBy hCp hbl
        clear hBy hCp HS HO
        go_wp2_with (first | (refine ldA hR rfl _ rfl rfl ?_))
        refine hD.mono ?_
        rintro e x1 ⟨rfl, its', M1, ok1, al1, _⟩
        have HM1 := hidOf2 M1
        have HO1 := hidOf2 ok1
        have HP1 := hidOf2 (show (its'.map Im.e).Perm (l.map En.plain) by rw [al1]; exact HP.out)
        clear hD hR M1 ok1 al1
        go_wp2
        go_roundw
        case rel => exact ⟨k + 1, its', by omega, by go_num, HM1, HO1, HP1⟩
        case measure => simp [intOf]; omega
      · have hlen := (chkL_ok hc).1
        have bB : Below wr.heap.size wr (wr.alloc (.cells #[] 47)) := (Below.refl _ _).alloc (Nat.le_refl _) _
        have hWa := HW0.out.same (Nat.le_trans HS.out.below.size bB.size) (fun b _ hl => (bB.block b (Nat.lt_of_lt_of_le hl HS.out.below.size)).trans (HS.out.below.block b hl))
        have hown := own0E wr
        go_wp2_with (first | (refine bs0E rfl rfl ?_) | (refine apE rfl _ _ rfl wr.heap.size (.slice (some ⟨wr.heap.size, 0, none⟩) 0 0) [] rfl hown _ l rfl hWa (by simpa using hn0) bB.size ?_; intro v2 w2 P2 G2; rw [List.nil_append] at P2))
        have b2 : Below wr.heap.size wr w2 := bB.grown G2 bB.size (own_lt hown)
        have HM2 := hidOf2 (HS.out.next b2)
        have hN := (oNew_any v2 l w2 (wide_of_own DE P2) (by omega)).mono (fun _ _ h => h.2 hc)
        clear P2 G2 hown hWa bB HS b2
        refine hN.mono ?_
        rintro e w3 ⟨D2, R2, its2, rfl, N2⟩
        have HM3 := hidOf2 (HM2.out.next N2.below)
        have HE2 := hidOf2 (show its2.map Im.e = its.map Im.e from sorted_eq (List.pairwise_map.2 N2.dct.sorted) (List.pairwise_map.2 HM3.out.dct.sorted) (N2.perm.trans HP.out.symm))
        obtain ⟨kc, ks, kv⟩ := kept HM3.out.dct.sorted HO.out N2.dct.apart HE2.out
        have HDIS := hidOf2 (show ∀ b ∈ its.map Im.b, b ∉ its2.map Im.b from fun b hb h2 => by
          obtain ⟨i, hi, rfl⟩ := List.mem_map.1 hb
          obtain ⟨i2, hi2, e2⟩ := List.mem_map.1 h2
          have := (HM2.out.dct.items i hi).lt
          have := N2.base i2 hi2
          omega)
        have HBS := hidOf2 (show ∀ b ∈ its2.map Im.b, w.heap.size ≤ b from fun b hb => by
          obtain ⟨i, hi, rfl⟩ := List.mem_map.1 hb
          exact Nat.le_trans HM2.out.below.size (N2.base i hi))
        have HKP := hidOf2 (show ∀ e ∈ l, e.ac = 2 → getV its e.ix e.sb = getV (loadI its2 (sav its)) e.ix e.sb from fun e he ha => by
          obtain ⟨i, hi, hie, hf⟩ := fnd_entry HM3.out.dct.sorted HP.out he
          rw [kv e.ix e.sb i hf (by rw [hie]; exact ha)]
          unfold getV
          rw [hf])
        have HSAV := hidOf2 ks
        have HK3 : Hid (Kz w X D R E D2 R2 its its2 w3) := ⟨HM3.out.dct, N2.dct, HM3.out.pair, HM3.out.below⟩
        have cX := HK3.out.cX
        have hSv := Save_any HK3.out.d1
        have HLD := hidOf2 kc
        have hsl := sav_len its
        have hil := HM3.out.len
        clear hN N2 kc ks kv HM2 HM3 HE2 HP HO
        go_wp2_with fail
        refine hSv.mono ?_
        rintro e w4 ⟨xS, rfl, PS, b4⟩
        have HK4 := hidOf2 (HK3.out.next b4)
        obtain ⟨aS, cS, hxS⟩ := own_shape5 PS
        subst hxS
        have hLd := Load_any HK4.out.d2 _ (sav its) (bytes_of_own PS) (own_cp PS) (by omega)
        rw [HLD.out] at hLd
        clear hSv PS b4 HK3 cX
        go_wp2_with fail
        refine hLd.mono ?_
        rintro e w5 ⟨rfl, D5, K5⟩
        have HKZ := hidOf2 (HK4.out.load D5 K5 HDIS.out HBS.out)
        clear hLd D5 K5 HK4 HDIS HBS
        generalize loadI its2 (sav its) = itz at *
        go_wp2
        go_loopw [10] (fun s10 y => ∃ k : Nat, k ≤ l.length ∧ s10 = .int .i64 k ∧ Hid (Kz w X D R E D2 R2 its itz y)) (fun s10 _ => l.length - (intOf s10).toNat)
        case atStart => exact ⟨0, Nat.zero_le _, rfl, HKZ⟩
        case round =>
          clear HKZ
          obtain ⟨k, hk, rfl, HK⟩ := hrel
          by_cases hkl : k < l.length
          · obtain ⟨eb, eo, cp', hv, heb, hR0⟩ := HW0.out.at0 k hkl
            injection hv with hv1 _ hv3
            subst hv1
            subst hv3
            have hmem := List.getElem_mem hkl
            obtain ⟨e8, he8⟩ : ∃ e, l[k] = e := ⟨_, rfl⟩
            rw [he8] at hR0 hmem
            have HR0 := hidOf2 (fun y (hb : Below w.heap.size w y) => rng_below hR0 hb heb)
            have HVV := hidOf2 (HKP.out e8 hmem)
            obtain ⟨V1, hV1⟩ : ∃ v, getV its e8.ix e8.sb = v := ⟨_, rfl⟩
            obtain ⟨V2, hV2⟩ : ∃ v, getV itz e8.ix e8.sb = v := ⟨_, rfl⟩
            obtain ⟨E1, hE1⟩ : ∃ v, getE its e8.ix e8.sb = v := ⟨_, rfl⟩
            obtain ⟨E2, hE2⟩ : ∃ v, getE itz e8.ix e8.sb = v := ⟨_, rfl⟩
            rw [hV1, hV2] at HVV
            have HG1 := hidOf2 hV1
            have HG2 := hidOf2 hV2
            have HE1 := hidOf2 hE1
            have HE2 := hidOf2 hE2
            clear hR0 hmem heb hV1 hV2 hE1 hE2 he8
            generalize wr = w7 at *
            have HSS : Hid (∀ y, Below w7.heap.size w7 y → (fun y => y.cell? ⟨X, 0, none⟩ = some (.pointer (some ⟨D, 0, none⟩)) ∧ y.cell? ⟨eb, eo + k * 14, none⟩ = some (.int .u16 e8.ix) ∧ y.cell? ⟨eb, eo + k * 14 + 1, none⟩ = some (.int .u8 e8.sb)) y) := fun y hb =>
              have B := HK.out.next hb
              have r := HR0.out y B.below
              ⟨B.cX, by have := r 0 _ rfl; simpa using this, r 1 _ rfl⟩
            have HGA := hidOf2 (fun y (hb : Below w7.heap.size w7 y) => (Get_any (HK.out.next hb).d1 e8.ix e8.sb e8.hix e8.hsb).mono (fun e z h => And.intro (h.1.trans (by rw [HG1.out, HE1.out])) h.2))
            have c0 : Below w7.heap.size w7 w7.drew := bdr (Below.refl _ _) 1
            have S0 := HSS.out _ c0
            go_upto_region 17 with fail
            refine wp_cut (α := Nat) (fun u y => Va u V1 y ∧ Below w7.heap.size w7 y) (fun a u => ((((((((((((((((((((a.put (some 68) (.pointer (some ⟨X, 0, none⟩))).put (some 69) (.pointer (some ⟨X, 0, none⟩))).put (some 70) (.pointer (some ⟨X, 0, none⟩))).put (some 71) (.pointer (some ⟨D, 0, none⟩))).put (some 72) (.slice (some ⟨eb, eo, none⟩) l.length cp0)).put (some 73) (.int .i64 (k : Int))).put (some 74) (.pointer (some ⟨eb, eo + k * 14, none⟩))).put (some 75) (.pointer (some ⟨eb, eo + k * 14, none⟩))).put (some 76) (.int .u16 e8.ix)).put (some 77) (.slice (some ⟨eb, eo, none⟩) l.length cp0)).put (some 78) (.int .i64 (k : Int))).put (some 79) (.pointer (some ⟨eb, eo + k * 14, none⟩))).put (some 80) (.pointer (some ⟨eb, eo + k * 14 + 1, none⟩))).put (some 81) (.int .u8 e8.sb)).put (some 82) (.tuple #[.agg V1.arr, .int .i64 (E1 : Nat)])).put (some 67) (.tuple #[.agg V1.arr, .int .i64 (E1 : Nat)])).put (some 83) (.agg V1.arr)).put (some 84) (.int .i64 (E1 : Nat))).put (some 11) (.pointer (some ⟨u, 0, none⟩))).put (some 12) (.int .i64 (E1 : Nat)))) ?_ ?_
            · refine wp_region_held (S := fun y => y.cell? ⟨X, 0, none⟩ = some (.pointer (some ⟨D, 0, none⟩)) ∧ y.cell? ⟨eb, eo + k * 14, none⟩ = some (.int .u16 e8.ix) ∧ y.cell? ⟨eb, eo + k * 14 + 1, none⟩ = some (.int .u8 e8.sb)) (by kernel_rfl) ?_
              change wpAnyH _ _ _ _ _ _ _ _ w7.drew
              refine wpAnyH_take (i := 0) (v := (.pointer (some ⟨X, 0, none⟩))) rfl (by kernel_rfl) (by kernel_rfl) (by kernel_rfl) (fun _ _ _ h => nomatch h.1) (.inl ⟨rfl, fun _ hS => rfl⟩) S0 ?_
              simp only [List.getElem_toArray, List.getElem_cons_succ, List.getElem_cons_zero, Act.put, List.setIfInBounds_toArray, List.set_cons_succ, List.set_cons_zero]
              refine wpAnyH_take (i := 1) (v := (.pointer (some ⟨X, 0, none⟩))) rfl (by kernel_rfl) (by kernel_rfl) (by kernel_rfl) (fun _ _ _ h => nomatch h.1) (.inl ⟨rfl, fun _ hS => by simp [execOp, go_sem, Act.eval]⟩) S0 ?_
              simp only [List.getElem_toArray, List.getElem_cons_succ, List.getElem_cons_zero, Act.put, List.setIfInBounds_toArray, List.set_cons_succ, List.set_cons_zero]
              refine wpAnyH_take (i := 2) (v := (.pointer (some ⟨X, 0, none⟩))) rfl (by kernel_rfl) (by kernel_rfl) (by kernel_rfl) (fun _ _ _ h => nomatch h.1) (.inl ⟨rfl, fun _ hS => by simp [execOp, go_sem, Act.eval]⟩) S0 ?_
              simp only [List.getElem_toArray, List.getElem_cons_succ, List.getElem_cons_zero, Act.put, List.setIfInBounds_toArray, List.set_cons_succ, List.set_cons_zero]
              refine wpAnyH_take (i := 3) (v := (.pointer (some ⟨D, 0, none⟩))) rfl (by kernel_rfl) (by kernel_rfl) (by kernel_rfl) (fun _ _ _ h => nomatch h.1) (.inl ⟨rfl, fun _ hS => exec_load rfl rfl (load_pd _ _ _ _ hS.1)⟩) S0 ?_
              simp only [List.getElem_toArray, List.getElem_cons_succ, List.getElem_cons_zero, Act.put, List.setIfInBounds_toArray, List.set_cons_succ, List.set_cons_zero]
              refine wpAnyH_take (i := 4) (v := (.slice (some ⟨eb, eo, none⟩) l.length cp0)) rfl (by kernel_rfl) (by kernel_rfl) (by kernel_rfl) (fun _ _ _ h => nomatch h.1) (.inl ⟨rfl, fun _ hS => rfl⟩) S0 ?_
              simp only [List.getElem_toArray, List.getElem_cons_succ, List.getElem_cons_zero, Act.put, List.setIfInBounds_toArray, List.set_cons_succ, List.set_cons_zero]
              refine wpAnyH_take (i := 5) (v := (.int .i64 (k : Int))) rfl (by kernel_rfl) (by kernel_rfl) (by kernel_rfl) (fun _ _ _ h => nomatch h.1) (.inl ⟨rfl, fun _ hS => rfl⟩) S0 ?_
              simp only [List.getElem_toArray, List.getElem_cons_succ, List.getElem_cons_zero, Act.put, List.setIfInBounds_toArray, List.set_cons_succ, List.set_cons_zero]
              refine wpAnyH_take (i := 6) (v := (.pointer (some ⟨eb, eo + k * 14, none⟩))) rfl (by kernel_rfl) (by kernel_rfl) (by kernel_rfl) (fun _ _ _ h => nomatch h.1) (.inl ⟨rfl, fun _ hS => exec_idxE rfl rfl rfl hkl _⟩) S0 ?_
              simp only [List.getElem_toArray, List.getElem_cons_succ, List.getElem_cons_zero, Act.put, List.setIfInBounds_toArray, List.set_cons_succ, List.set_cons_zero]
              refine wpAnyH_take (i := 7) (v := (.pointer (some ⟨eb, eo + k * 14, none⟩))) rfl (by kernel_rfl) (by kernel_rfl) (by kernel_rfl) (fun _ _ _ h => nomatch h.1) (.inl ⟨rfl, fun _ hS => by simp [execOp, go_sem, Act.eval]⟩) S0 ?_
              simp only [List.getElem_toArray, List.getElem_cons_succ, List.getElem_cons_zero, Act.put, List.setIfInBounds_toArray, List.set_cons_succ, List.set_cons_zero]
              refine wpAnyH_take (i := 8) (v := (.int .u16 e8.ix)) rfl (by kernel_rfl) (by kernel_rfl) (by kernel_rfl) (fun _ _ _ h => nomatch h.1) (.inl ⟨rfl, fun _ hS => exec_load rfl rfl (load_u16 _ _ _ _ hS.2.1)⟩) S0 ?_
              simp only [List.getElem_toArray, List.getElem_cons_succ, List.getElem_cons_zero, Act.put, List.setIfInBounds_toArray, List.set_cons_succ, List.set_cons_zero]
              refine wpAnyH_take (i := 9) (v := (.slice (some ⟨eb, eo, none⟩) l.length cp0)) rfl (by kernel_rfl) (by kernel_rfl) (by kernel_rfl) (fun _ _ _ h => nomatch h.1) (.inl ⟨rfl, fun _ hS => rfl⟩) S0 ?_
              simp only [List.getElem_toArray, List.getElem_cons_succ, List.getElem_cons_zero, Act.put, List.setIfInBounds_toArray, List.set_cons_succ, List.set_cons_zero]
              refine wpAnyH_take (i := 10) (v := (.int .i64 (k : Int))) rfl (by kernel_rfl) (by kernel_rfl) (by kernel_rfl) (fun _ _ _ h => nomatch h.1) (.inl ⟨rfl, fun _ hS => rfl⟩) S0 ?_
              simp only [List.getElem_toArray, List.getElem_cons_succ, List.getElem_cons_zero, Act.put, List.setIfInBounds_toArray, List.set_cons_succ, List.set_cons_zero]
              refine wpAnyH_take (i := 11) (v := (.pointer (some ⟨eb, eo + k * 14, none⟩))) rfl (by kernel_rfl) (by kernel_rfl) (by kernel_rfl) (fun _ _ _ h => nomatch h.1) (.inl ⟨rfl, fun _ hS => exec_idxE rfl rfl rfl hkl _⟩) S0 ?_
              simp only [List.getElem_toArray, List.getElem_cons_succ, List.getElem_cons_zero, Act.put, List.setIfInBounds_toArray, List.set_cons_succ, List.set_cons_zero]
              refine wpAnyH_take (i := 12) (v := (.pointer (some ⟨eb, eo + k * 14 + 1, none⟩))) rfl (by kernel_rfl) (by kernel_rfl) (by kernel_rfl) (fun _ _ _ h => nomatch h.1) (.inl ⟨rfl, fun _ hS => by simp [execOp, go_sem, Act.eval]⟩) S0 ?_
              simp only [List.getElem_toArray, List.getElem_cons_succ, List.getElem_cons_zero, Act.put, List.setIfInBounds_toArray, List.set_cons_succ, List.set_cons_zero]
              refine wpAnyH_take (i := 13) (v := (.int .u8 e8.sb)) rfl (by kernel_rfl) (by kernel_rfl) (by kernel_rfl) (fun _ _ _ h => nomatch h.1) (.inl ⟨rfl, fun _ hS => exec_load rfl rfl (load_u8 _ _ _ _ hS.2.2)⟩) S0 ?_
              simp only [List.getElem_toArray, List.getElem_cons_succ, List.getElem_cons_zero, Act.put, List.setIfInBounds_toArray, List.set_cons_succ, List.set_cons_zero]
              refine wpAnyH_all (rs := [14, 18]) (by kernel_rfl) (by simp) ?_
              intro k hk
              simp only [List.mem_cons, List.mem_nil_iff, or_false] at hk
              rcases hk with rfl | rfl
              · refine wpOp_run rfl rfl (wp_call_fn 15 #[.pointer (some ⟨D, 0, none⟩), .int .u16 e8.ix, .int .u8 e8.sb] (by simp [execOp, go_sem, Act.eval, resolve, invoke, enterPG]) ?_)
                refine (HGA.out w7.drew c0).mono ?_
                rintro e u1 ⟨rfl, b1⟩
                have c1 := c0.trans (b1.mono c0.size)
                have s1 := HSS.out _ c1
                refine ⟨s1, ?_⟩
                simp only [List.getElem_toArray, List.getElem_cons_succ, List.getElem_cons_zero, Act.put, List.setIfInBounds_toArray, List.set_cons_succ, List.set_cons_zero]
                refine wpAnyH_take (i := 15) (v := (.tuple #[.agg V1.arr, .int .i64 (E1 : Nat)])) rfl (by kernel_rfl) (by kernel_rfl) (by kernel_rfl) (fun _ _ _ h => nomatch h.1) (.inl ⟨rfl, fun _ hS => rfl⟩) s1 ?_
                simp only [List.getElem_toArray, List.getElem_cons_succ, List.getElem_cons_zero, Act.put, List.setIfInBounds_toArray, List.set_cons_succ, List.set_cons_zero]
                refine wpAnyH_take (i := 16) (v := (.agg V1.arr)) rfl (by kernel_rfl) (by kernel_rfl) (by kernel_rfl) (fun _ _ _ h => nomatch h.1) (.inl ⟨rfl, fun _ hS => by simp [execOp, go_sem, Act.eval]⟩) s1 ?_
                simp only [List.getElem_toArray, List.getElem_cons_succ, List.getElem_cons_zero, Act.put, List.setIfInBounds_toArray, List.set_cons_succ, List.set_cons_zero]
                refine wpAnyH_take (i := 17) (v := (.int .i64 (E1 : Nat))) rfl (by kernel_rfl) (by kernel_rfl) (by kernel_rfl) (fun _ _ _ h => nomatch h.1) (.inl ⟨rfl, fun _ hS => by simp [execOp, go_sem, Act.eval]⟩) s1 ?_
                simp only [List.getElem_toArray, List.getElem_cons_succ, List.getElem_cons_zero, Act.put, List.setIfInBounds_toArray, List.set_cons_succ, List.set_cons_zero]
                refine wpAnyH_all (rs := [18]) (by kernel_rfl) (by simp) ?_
                intro k hk
                simp only [List.mem_cons, List.mem_nil_iff, or_false] at hk
                subst hk
                refine wpOp_run rfl rfl (wp_allocV rfl ?_)
                obtain ⟨q5, hqv⟩ : ∃ q, u1.heap.size = q := ⟨_, rfl⟩
                have g2 := Va.new u1 Vl.nul
                have c2 := c1.alloc c1.size (.cells Vl.nul.arr 33)
                have s2 := HSS.out _ c2
                have hqr : w7.heap.size ≤ q5 := by rw [← hqv]; exact c1.size
                rw [hqv] at g2 ⊢
                generalize u1.alloc (.cells Vl.nul.arr 33) = u2 at *
                refine ⟨s2, ?_⟩
                simp only [List.getElem_toArray, List.getElem_cons_succ, List.getElem_cons_zero, Act.put, List.setIfInBounds_toArray, List.set_cons_succ, List.set_cons_zero]
                refine wpAnyH_all (rs := [19]) (by kernel_rfl) (by simp) ?_
                intro k hk
                simp only [List.mem_cons, List.mem_nil_iff, or_false] at hk
                subst hk
                refine wpOp_run rfl rfl (wp_store_row 33 _ _ rfl q5 (V1).arr rfl rfl 33 Vl.nul.arr g2 (by rw [Vl.arr_size]; exact infoV) (by rw [Vl.arr_size, Vl.arr_size]) (V1).one ?_)
                have gZ := g2.row (V1)
                have cZ := below_row c2 hqr c2.size (q := q5) (V1).arr
                have sZ := HSS.out _ cZ
                refine ⟨sZ, ?_⟩
                simp only [List.getElem_toArray, List.getElem_cons_succ, List.getElem_cons_zero, Act.put, List.setIfInBounds_toArray, List.set_cons_succ, List.set_cons_zero]
                refine wpAnyH_take (i := 20) (v := (.int .i64 (E1 : Nat))) rfl (by kernel_rfl) (by kernel_rfl) (by kernel_rfl) (fun _ _ _ h => nomatch h.1) (.inl ⟨rfl, fun _ hS => rfl⟩) sZ ?_
                simp only [List.getElem_toArray, List.getElem_cons_succ, List.getElem_cons_zero, Act.put, List.setIfInBounds_toArray, List.set_cons_succ, List.set_cons_zero]
                refine wpAnyH_done (by kernel_rfl) ?_ _
                exact ⟨rfl, q5, rfl, gZ, cZ⟩
              · refine wpOp_run rfl rfl (wp_allocV rfl ?_)
                obtain ⟨q5, hqv⟩ : ∃ q, w7.drew.heap.size = q := ⟨_, rfl⟩
                have g1 := Va.new w7.drew Vl.nul
                have c1 := c0.alloc c0.size (.cells Vl.nul.arr 33)
                have s1 := HSS.out _ c1
                have hqr : w7.heap.size ≤ q5 := by rw [← hqv]; exact c0.size
                rw [hqv] at g1 ⊢
                generalize w7.drew.alloc (.cells Vl.nul.arr 33) = u1 at *
                refine ⟨s1, ?_⟩
                simp only [List.getElem_toArray, List.getElem_cons_succ, List.getElem_cons_zero, Act.put, List.setIfInBounds_toArray, List.set_cons_succ, List.set_cons_zero]
                refine wpAnyH_all (rs := [14]) (by kernel_rfl) (by simp) ?_
                intro k hk
                simp only [List.mem_cons, List.mem_nil_iff, or_false] at hk
                subst hk
                refine wpOp_run rfl rfl (wp_call_fn 15 #[.pointer (some ⟨D, 0, none⟩), .int .u16 e8.ix, .int .u8 e8.sb] (by simp [execOp, go_sem, Act.eval, resolve, invoke, enterPG]) ?_)
                refine (HGA.out u1 c1).mono ?_
                rintro e u2 ⟨rfl, b2⟩
                have c2 := c1.trans (b2.mono c1.size)
                have s2 := HSS.out _ c2
                have g2 := g1.below b2
                refine ⟨s2, ?_⟩
                simp only [List.getElem_toArray, List.getElem_cons_succ, List.getElem_cons_zero, Act.put, List.setIfInBounds_toArray, List.set_cons_succ, List.set_cons_zero]
                refine wpAnyH_take (i := 15) (v := (.tuple #[.agg V1.arr, .int .i64 (E1 : Nat)])) rfl (by kernel_rfl) (by kernel_rfl) (by kernel_rfl) (fun _ _ _ h => nomatch h.1) (.inl ⟨rfl, fun _ hS => rfl⟩) s2 ?_
                simp only [List.getElem_toArray, List.getElem_cons_succ, List.getElem_cons_zero, Act.put, List.setIfInBounds_toArray, List.set_cons_succ, List.set_cons_zero]
                refine wpAnyH_take (i := 16) (v := (.agg V1.arr)) rfl (by kernel_rfl) (by kernel_rfl) (by kernel_rfl) (fun _ _ _ h => nomatch h.1) (.inl ⟨rfl, fun _ hS => by simp [execOp, go_sem, Act.eval]⟩) s2 ?_
                simp only [List.getElem_toArray, List.getElem_cons_succ, List.getElem_cons_zero, Act.put, List.setIfInBounds_toArray, List.set_cons_succ, List.set_cons_zero]
                refine wpAnyH_take (i := 17) (v := (.int .i64 (E1 : Nat))) rfl (by kernel_rfl) (by kernel_rfl) (by kernel_rfl) (fun _ _ _ h => nomatch h.1) (.inl ⟨rfl, fun _ hS => by simp [execOp, go_sem, Act.eval]⟩) s2 ?_
                simp only [List.getElem_toArray, List.getElem_cons_succ, List.getElem_cons_zero, Act.put, List.setIfInBounds_toArray, List.set_cons_succ, List.set_cons_zero]
                refine wpAnyH_all (rs := [19]) (by kernel_rfl) (by simp) ?_
                intro k hk
                simp only [List.mem_cons, List.mem_nil_iff, or_false] at hk
                subst hk
                refine wpOp_run rfl rfl (wp_store_row 33 _ _ rfl q5 (V1).arr rfl rfl 33 Vl.nul.arr g2 (by rw [Vl.arr_size]; exact infoV) (by rw [Vl.arr_size, Vl.arr_size]) (V1).one ?_)
                have gZ := g2.row (V1)
                have cZ := below_row c2 hqr c2.size (q := q5) (V1).arr
                have sZ := HSS.out _ cZ
                refine ⟨sZ, ?_⟩
                simp only [List.getElem_toArray, List.getElem_cons_succ, List.getElem_cons_zero, Act.put, List.setIfInBounds_toArray, List.set_cons_succ, List.set_cons_zero]
                refine wpAnyH_take (i := 20) (v := (.int .i64 (E1 : Nat))) rfl (by kernel_rfl) (by kernel_rfl) (by kernel_rfl) (fun _ _ _ h => nomatch h.1) (.inl ⟨rfl, fun _ hS => rfl⟩) sZ ?_
                simp only [List.getElem_toArray, List.getElem_cons_succ, List.getElem_cons_zero, Act.put, List.setIfInBounds_toArray, List.set_cons_succ, List.set_cons_zero]
                refine wpAnyH_done (by kernel_rfl) ?_ _
                exact ⟨rfl, q5, rfl, gZ, cZ⟩
            intro q5 w8 hI8
            simp only [Act.put, List.setIfInBounds_toArray, List.set_cons_succ, List.set_cons_zero]
            clear c0 S0 HSS HGA
            have HV1a := hidOf2 hI8.1
            have HK8 := hidOf2 (HK.out.next hI8.2)
            clear HK hI8
            have HSS : Hid (∀ y, Below w8.heap.size w8 y → (fun y => y.cell? ⟨X, 0, none⟩ = some (.pointer (some ⟨D, 0, none⟩)) ∧ y.cell? ⟨eb, eo + k * 14, none⟩ = some (.int .u16 e8.ix) ∧ y.cell? ⟨eb, eo + k * 14 + 1, none⟩ = some (.int .u8 e8.sb)) y) := fun y hb =>
              have B := HK8.out.next hb
              have r := HR0.out y B.below
              ⟨B.cX, by have := r 0 _ rfl; simpa using this, r 1 _ rfl⟩
            have HGB := hidOf2 (fun y (hb : Below w8.heap.size w8 y) => (Get_any (HK8.out.next hb).d2 e8.ix e8.sb e8.hix e8.hsb).mono (fun e z h => And.intro (h.1.trans (by rw [HG2.out, HE2.out])) h.2))
            have c0 : Below w8.heap.size w8 w8.drew := bdr (Below.refl _ _) 1
            have S0 := HSS.out _ c0
            go_upto_region 18 with fail
            refine wp_cut (α := Nat) (fun u y => Va u V2 y ∧ Below w8.heap.size w8 y) (fun a u => (((((((((((((((((a.put (some 86) (.pointer (some ⟨D2, 0, none⟩))).put (some 87) (.slice (some ⟨eb, eo, none⟩) l.length cp0)).put (some 88) (.int .i64 (k : Int))).put (some 89) (.pointer (some ⟨eb, eo + k * 14, none⟩))).put (some 90) (.pointer (some ⟨eb, eo + k * 14, none⟩))).put (some 91) (.int .u16 e8.ix)).put (some 92) (.slice (some ⟨eb, eo, none⟩) l.length cp0)).put (some 93) (.int .i64 (k : Int))).put (some 94) (.pointer (some ⟨eb, eo + k * 14, none⟩))).put (some 95) (.pointer (some ⟨eb, eo + k * 14 + 1, none⟩))).put (some 96) (.int .u8 e8.sb)).put (some 97) (.tuple #[.agg V2.arr, .int .i64 (E2 : Nat)])).put (some 85) (.tuple #[.agg V2.arr, .int .i64 (E2 : Nat)])).put (some 98) (.agg V2.arr)).put (some 99) (.int .i64 (E2 : Nat))).put (some 13) (.pointer (some ⟨u, 0, none⟩))).put (some 14) (.int .i64 (E2 : Nat)))) ?_ ?_
            · refine wp_region_held (S := fun y => y.cell? ⟨X, 0, none⟩ = some (.pointer (some ⟨D, 0, none⟩)) ∧ y.cell? ⟨eb, eo + k * 14, none⟩ = some (.int .u16 e8.ix) ∧ y.cell? ⟨eb, eo + k * 14 + 1, none⟩ = some (.int .u8 e8.sb)) (by kernel_rfl) ?_
              change wpAnyH _ _ _ _ _ _ _ _ w8.drew
              refine wpAnyH_take (i := 0) (v := (.pointer (some ⟨D2, 0, none⟩))) rfl (by kernel_rfl) (by kernel_rfl) (by kernel_rfl) (fun _ _ _ h => nomatch h.1) (.inl ⟨rfl, fun _ hS => rfl⟩) S0 ?_
              simp only [List.getElem_toArray, List.getElem_cons_succ, List.getElem_cons_zero, Act.put, List.setIfInBounds_toArray, List.set_cons_succ, List.set_cons_zero]
              refine wpAnyH_take (i := 1) (v := (.slice (some ⟨eb, eo, none⟩) l.length cp0)) rfl (by kernel_rfl) (by kernel_rfl) (by kernel_rfl) (fun _ _ _ h => nomatch h.1) (.inl ⟨rfl, fun _ hS => rfl⟩) S0 ?_
              simp only [List.getElem_toArray, List.getElem_cons_succ, List.getElem_cons_zero, Act.put, List.setIfInBounds_toArray, List.set_cons_succ, List.set_cons_zero]
              refine wpAnyH_take (i := 2) (v := (.int .i64 (k : Int))) rfl (by kernel_rfl) (by kernel_rfl) (by kernel_rfl) (fun _ _ _ h => nomatch h.1) (.inl ⟨rfl, fun _ hS => rfl⟩) S0 ?_
              simp only [List.getElem_toArray, List.getElem_cons_succ, List.getElem_cons_zero, Act.put, List.setIfInBounds_toArray, List.set_cons_succ, List.set_cons_zero]
              refine wpAnyH_take (i := 3) (v := (.pointer (some ⟨eb, eo + k * 14, none⟩))) rfl (by kernel_rfl) (by kernel_rfl) (by kernel_rfl) (fun _ _ _ h => nomatch h.1) (.inl ⟨rfl, fun _ hS => exec_idxE rfl rfl rfl hkl _⟩) S0 ?_
              simp only [List.getElem_toArray, List.getElem_cons_succ, List.getElem_cons_zero, Act.put, List.setIfInBounds_toArray, List.set_cons_succ, List.set_cons_zero]
              refine wpAnyH_take (i := 4) (v := (.pointer (some ⟨eb, eo + k * 14, none⟩))) rfl (by kernel_rfl) (by kernel_rfl) (by kernel_rfl) (fun _ _ _ h => nomatch h.1) (.inl ⟨rfl, fun _ hS => by simp [execOp, go_sem, Act.eval]⟩) S0 ?_
              simp only [List.getElem_toArray, List.getElem_cons_succ, List.getElem_cons_zero, Act.put, List.setIfInBounds_toArray, List.set_cons_succ, List.set_cons_zero]
              refine wpAnyH_take (i := 5) (v := (.int .u16 e8.ix)) rfl (by kernel_rfl) (by kernel_rfl) (by kernel_rfl) (fun _ _ _ h => nomatch h.1) (.inl ⟨rfl, fun _ hS => exec_load rfl rfl (load_u16 _ _ _ _ hS.2.1)⟩) S0 ?_
              simp only [List.getElem_toArray, List.getElem_cons_succ, List.getElem_cons_zero, Act.put, List.setIfInBounds_toArray, List.set_cons_succ, List.set_cons_zero]
              refine wpAnyH_take (i := 6) (v := (.slice (some ⟨eb, eo, none⟩) l.length cp0)) rfl (by kernel_rfl) (by kernel_rfl) (by kernel_rfl) (fun _ _ _ h => nomatch h.1) (.inl ⟨rfl, fun _ hS => rfl⟩) S0 ?_
              simp only [List.getElem_toArray, List.getElem_cons_succ, List.getElem_cons_zero, Act.put, List.setIfInBounds_toArray, List.set_cons_succ, List.set_cons_zero]
              refine wpAnyH_take (i := 7) (v := (.int .i64 (k : Int))) rfl (by kernel_rfl) (by kernel_rfl) (by kernel_rfl) (fun _ _ _ h => nomatch h.1) (.inl ⟨rfl, fun _ hS => rfl⟩) S0 ?_
              simp only [List.getElem_toArray, List.getElem_cons_succ, List.getElem_cons_zero, Act.put, List.setIfInBounds_toArray, List.set_cons_succ, List.set_cons_zero]
              refine wpAnyH_take (i := 8) (v := (.pointer (some ⟨eb, eo + k * 14, none⟩))) rfl (by kernel_rfl) (by kernel_rfl) (by kernel_rfl) (fun _ _ _ h => nomatch h.1) (.inl ⟨rfl, fun _ hS => exec_idxE rfl rfl rfl hkl _⟩) S0 ?_
              simp only [List.getElem_toArray, List.getElem_cons_succ, List.getElem_cons_zero, Act.put, List.setIfInBounds_toArray, List.set_cons_succ, List.set_cons_zero]
              refine wpAnyH_take (i := 9) (v := (.pointer (some ⟨eb, eo + k * 14 + 1, none⟩))) rfl (by kernel_rfl) (by kernel_rfl) (by kernel_rfl) (fun _ _ _ h => nomatch h.1) (.inl ⟨rfl, fun _ hS => by simp [execOp, go_sem, Act.eval]⟩) S0 ?_
              simp only [List.getElem_toArray, List.getElem_cons_succ, List.getElem_cons_zero, Act.put, List.setIfInBounds_toArray, List.set_cons_succ, List.set_cons_zero]
              refine wpAnyH_take (i := 10) (v := (.int .u8 e8.sb)) rfl (by kernel_rfl) (by kernel_rfl) (by kernel_rfl) (fun _ _ _ h => nomatch h.1) (.inl ⟨rfl, fun _ hS => exec_load rfl rfl (load_u8 _ _ _ _ hS.2.2)⟩) S0 ?_
              simp only [List.getElem_toArray, List.getElem_cons_succ, List.getElem_cons_zero, Act.put, List.setIfInBounds_toArray, List.set_cons_succ, List.set_cons_zero]
              refine wpAnyH_all (rs := [11, 15]) (by kernel_rfl) (by simp) ?_
              intro k hk
              simp only [List.mem_cons, List.mem_nil_iff, or_false] at hk
              rcases hk with rfl | rfl
              · refine wpOp_run rfl rfl (wp_call_fn 15 #[.pointer (some ⟨D2, 0, none⟩), .int .u16 e8.ix, .int .u8 e8.sb] (by simp [execOp, go_sem, Act.eval, resolve, invoke, enterPG]) ?_)
                refine (HGB.out w8.drew c0).mono ?_
                rintro e v1 ⟨rfl, b1⟩
                have c1 := c0.trans (b1.mono c0.size)
                have s1 := HSS.out _ c1
                refine ⟨s1, ?_⟩
                simp only [List.getElem_toArray, List.getElem_cons_succ, List.getElem_cons_zero, Act.put, List.setIfInBounds_toArray, List.set_cons_succ, List.set_cons_zero]
                refine wpAnyH_take (i := 12) (v := (.tuple #[.agg V2.arr, .int .i64 (E2 : Nat)])) rfl (by kernel_rfl) (by kernel_rfl) (by kernel_rfl) (fun _ _ _ h => nomatch h.1) (.inl ⟨rfl, fun _ hS => rfl⟩) s1 ?_
                simp only [List.getElem_toArray, List.getElem_cons_succ, List.getElem_cons_zero, Act.put, List.setIfInBounds_toArray, List.set_cons_succ, List.set_cons_zero]
                refine wpAnyH_take (i := 13) (v := (.agg V2.arr)) rfl (by kernel_rfl) (by kernel_rfl) (by kernel_rfl) (fun _ _ _ h => nomatch h.1) (.inl ⟨rfl, fun _ hS => by simp [execOp, go_sem, Act.eval]⟩) s1 ?_
                simp only [List.getElem_toArray, List.getElem_cons_succ, List.getElem_cons_zero, Act.put, List.setIfInBounds_toArray, List.set_cons_succ, List.set_cons_zero]
                refine wpAnyH_take (i := 14) (v := (.int .i64 (E2 : Nat))) rfl (by kernel_rfl) (by kernel_rfl) (by kernel_rfl) (fun _ _ _ h => nomatch h.1) (.inl ⟨rfl, fun _ hS => by simp [execOp, go_sem, Act.eval]⟩) s1 ?_
                simp only [List.getElem_toArray, List.getElem_cons_succ, List.getElem_cons_zero, Act.put, List.setIfInBounds_toArray, List.set_cons_succ, List.set_cons_zero]
                refine wpAnyH_all (rs := [15]) (by kernel_rfl) (by simp) ?_
                intro k hk
                simp only [List.mem_cons, List.mem_nil_iff, or_false] at hk
                subst hk
                refine wpOp_run rfl rfl (wp_allocV rfl ?_)
                obtain ⟨q7, hqv⟩ : ∃ q, v1.heap.size = q := ⟨_, rfl⟩
                have g2 := Va.new v1 Vl.nul
                have c2 := c1.alloc c1.size (.cells Vl.nul.arr 33)
                have s2 := HSS.out _ c2
                have hqr : w8.heap.size ≤ q7 := by rw [← hqv]; exact c1.size
                rw [hqv] at g2 ⊢
                generalize v1.alloc (.cells Vl.nul.arr 33) = v2 at *
                refine ⟨s2, ?_⟩
                simp only [List.getElem_toArray, List.getElem_cons_succ, List.getElem_cons_zero, Act.put, List.setIfInBounds_toArray, List.set_cons_succ, List.set_cons_zero]
                refine wpAnyH_all (rs := [16]) (by kernel_rfl) (by simp) ?_
                intro k hk
                simp only [List.mem_cons, List.mem_nil_iff, or_false] at hk
                subst hk
                refine wpOp_run rfl rfl (wp_store_row 33 _ _ rfl q7 (V2).arr rfl rfl 33 Vl.nul.arr g2 (by rw [Vl.arr_size]; exact infoV) (by rw [Vl.arr_size, Vl.arr_size]) (V2).one ?_)
                have gZ := g2.row (V2)
                have cZ := below_row c2 hqr c2.size (q := q7) (V2).arr
                have sZ := HSS.out _ cZ
                refine ⟨sZ, ?_⟩
                simp only [List.getElem_toArray, List.getElem_cons_succ, List.getElem_cons_zero, Act.put, List.setIfInBounds_toArray, List.set_cons_succ, List.set_cons_zero]
                refine wpAnyH_take (i := 17) (v := (.int .i64 (E2 : Nat))) rfl (by kernel_rfl) (by kernel_rfl) (by kernel_rfl) (fun _ _ _ h => nomatch h.1) (.inl ⟨rfl, fun _ hS => rfl⟩) sZ ?_
                simp only [List.getElem_toArray, List.getElem_cons_succ, List.getElem_cons_zero, Act.put, List.setIfInBounds_toArray, List.set_cons_succ, List.set_cons_zero]
                refine wpAnyH_done (by kernel_rfl) ?_ _
                exact ⟨rfl, q7, rfl, gZ, cZ⟩
              · refine wpOp_run rfl rfl (wp_allocV rfl ?_)
                obtain ⟨q7, hqv⟩ : ∃ q, w8.drew.heap.size = q := ⟨_, rfl⟩
                have g1 := Va.new w8.drew Vl.nul
                have c1 := c0.alloc c0.size (.cells Vl.nul.arr 33)
                have s1 := HSS.out _ c1
                have hqr : w8.heap.size ≤ q7 := by rw [← hqv]; exact c0.size
                rw [hqv] at g1 ⊢
                generalize w8.drew.alloc (.cells Vl.nul.arr 33) = v1 at *
                refine ⟨s1, ?_⟩
                simp only [List.getElem_toArray, List.getElem_cons_succ, List.getElem_cons_zero, Act.put, List.setIfInBounds_toArray, List.set_cons_succ, List.set_cons_zero]
                refine wpAnyH_all (rs := [11]) (by kernel_rfl) (by simp) ?_
                intro k hk
                simp only [List.mem_cons, List.mem_nil_iff, or_false] at hk
                subst hk
                refine wpOp_run rfl rfl (wp_call_fn 15 #[.pointer (some ⟨D2, 0, none⟩), .int .u16 e8.ix, .int .u8 e8.sb] (by simp [execOp, go_sem, Act.eval, resolve, invoke, enterPG]) ?_)
                refine (HGB.out v1 c1).mono ?_
                rintro e v2 ⟨rfl, b2⟩
                have c2 := c1.trans (b2.mono c1.size)
                have s2 := HSS.out _ c2
                have g2 := g1.below b2
                refine ⟨s2, ?_⟩
                simp only [List.getElem_toArray, List.getElem_cons_succ, List.getElem_cons_zero, Act.put, List.setIfInBounds_toArray, List.set_cons_succ, List.set_cons_zero]
                refine wpAnyH_take (i := 12) (v := (.tuple #[.agg V2.arr, .int .i64 (E2 : Nat)])) rfl (by kernel_rfl) (by kernel_rfl) (by kernel_rfl) (fun _ _ _ h => nomatch h.1) (.inl ⟨rfl, fun _ hS => rfl⟩) s2 ?_
                simp only [List.getElem_toArray, List.getElem_cons_succ, List.getElem_cons_zero, Act.put, List.setIfInBounds_toArray, List.set_cons_succ, List.set_cons_zero]
                refine wpAnyH_take (i := 13) (v := (.agg V2.arr)) rfl (by kernel_rfl) (by kernel_rfl) (by kernel_rfl) (fun _ _ _ h => nomatch h.1) (.inl ⟨rfl, fun _ hS => by simp [execOp, go_sem, Act.eval]⟩) s2 ?_
                simp only [List.getElem_toArray, List.getElem_cons_succ, List.getElem_cons_zero, Act.put, List.setIfInBounds_toArray, List.set_cons_succ, List.set_cons_zero]
                refine wpAnyH_take (i := 14) (v := (.int .i64 (E2 : Nat))) rfl (by kernel_rfl) (by kernel_rfl) (by kernel_rfl) (fun _ _ _ h => nomatch h.1) (.inl ⟨rfl, fun _ hS => by simp [execOp, go_sem, Act.eval]⟩) s2 ?_
                simp only [List.getElem_toArray, List.getElem_cons_succ, List.getElem_cons_zero, Act.put, List.setIfInBounds_toArray, List.set_cons_succ, List.set_cons_zero]
                refine wpAnyH_all (rs := [16]) (by kernel_rfl) (by simp) ?_
                intro k hk
                simp only [List.mem_cons, List.mem_nil_iff, or_false] at hk
                subst hk
                refine wpOp_run rfl rfl (wp_store_row 33 _ _ rfl q7 (V2).arr rfl rfl 33 Vl.nul.arr g2 (by rw [Vl.arr_size]; exact infoV) (by rw [Vl.arr_size, Vl.arr_size]) (V2).one ?_)
                have gZ := g2.row (V2)
                have cZ := below_row c2 hqr c2.size (q := q7) (V2).arr
                have sZ := HSS.out _ cZ
                refine ⟨sZ, ?_⟩
                simp only [List.getElem_toArray, List.getElem_cons_succ, List.getElem_cons_zero, Act.put, List.setIfInBounds_toArray, List.set_cons_succ, List.set_cons_zero]
                refine wpAnyH_take (i := 17) (v := (.int .i64 (E2 : Nat))) rfl (by kernel_rfl) (by kernel_rfl) (by kernel_rfl) (fun _ _ _ h => nomatch h.1) (.inl ⟨rfl, fun _ hS => rfl⟩) sZ ?_
                simp only [List.getElem_toArray, List.getElem_cons_succ, List.getElem_cons_zero, Act.put, List.setIfInBounds_toArray, List.set_cons_succ, List.set_cons_zero]
                refine wpAnyH_done (by kernel_rfl) ?_ _
                exact ⟨rfl, q7, rfl, gZ, cZ⟩
            intro q7 w9 hI9
            simp only [Act.put, List.setIfInBounds_toArray, List.set_cons_succ, List.set_cons_zero]
            clear c0 S0 HSS HGB
            have HV2 := hidOf2 hI9.1
            have HV1 := hidOf2 (HV1a.out.below hI9.2)
            have HK9 := hidOf2 (HK8.out.next hI9.2)
            clear HK8 HV1a hI9
            have g1 := HV1.out
            have g2 := HV2.out
            have r0 := HR0.out w9 HK9.out.below
            have k2 := r0 2 _ rfl
            by_cases ha : e8.ac = 2
            · have hV := HVV.out ha
              subst hV
              have hs := vlB_same V1
              rw [ha] at k2
              go_wp2_with (first | (refine g1.ld rfl _ rfl rfl ?_) | (refine g2.ld rfl _ rfl rfl ?_) | (refine neqv V1 V1 rfl _ _ rfl rfl rfl ?_; rw [hs]; simp only [Bool.not_true]))
              go_roundw
              case rel => exact ⟨k + 1, by omega, by go_num, HK9⟩
              case measure => simp [intOf]; omega
            · have da : (e8.ac == 2) = false := by simpa using ha
              generalize e8.ac = AC at *
              go_wp2
              go_roundw
              case rel => exact ⟨k + 1, by omega, by go_num, HK9⟩
              case measure => simp [intOf]; omega
          · have K0 := HK.out.next (bdr (Below.refl _ wr) 1)
            have S21 : wr.drew.cell? ⟨X, 0, none⟩ = some (.pointer (some ⟨D, 0, none⟩)) := K0.cX
            go_upto_region 21 with fail
            refine wp_region_held (S := fun y => y.cell? ⟨X, 0, none⟩ = some (.pointer (some ⟨D, 0, none⟩))) (by kernel_rfl) ?_
            change wpAnyH _ _ _ _ _ _ _ _ wr.drew
            refine wpAnyH_take (i := 0) (v := (.pointer (some ⟨D2, 0, none⟩))) rfl (by kernel_rfl) (by kernel_rfl) (by kernel_rfl) (fun _ _ _ h => h) (.inl ⟨rfl, fun _ hS => rfl⟩) S21 ?_
            simp only [List.getElem_toArray, List.getElem_cons_succ, List.getElem_cons_zero, Act.put, List.setIfInBounds_toArray, List.set_cons_succ, List.set_cons_zero]
            refine wpAnyH_take (i := 3) (v := (.pointer (some ⟨X, 0, none⟩))) rfl (by kernel_rfl) (by kernel_rfl) (by kernel_rfl) (fun _ _ _ h => h) (.inl ⟨rfl, fun _ hS => rfl⟩) S21 ?_
            simp only [List.getElem_toArray, List.getElem_cons_succ, List.getElem_cons_zero, Act.put, List.setIfInBounds_toArray, List.set_cons_succ, List.set_cons_zero]
            refine wpAnyH_take (i := 4) (v := (.pointer (some ⟨X, 0, none⟩))) rfl (by kernel_rfl) (by kernel_rfl) (by kernel_rfl) (fun _ _ _ h => h) (.inl ⟨rfl, fun _ hS => by simp [execOp, go_sem, Act.eval]⟩) S21 ?_
            simp only [List.getElem_toArray, List.getElem_cons_succ, List.getElem_cons_zero, Act.put, List.setIfInBounds_toArray, List.set_cons_succ, List.set_cons_zero]
            refine wpAnyH_take (i := 5) (v := (.pointer (some ⟨X, 0, none⟩))) rfl (by kernel_rfl) (by kernel_rfl) (by kernel_rfl) (fun _ _ _ h => h) (.inl ⟨rfl, fun _ hS => by simp [execOp, go_sem, Act.eval]⟩) S21 ?_
            simp only [List.getElem_toArray, List.getElem_cons_succ, List.getElem_cons_zero, Act.put, List.setIfInBounds_toArray, List.set_cons_succ, List.set_cons_zero]
            refine wpAnyH_take (i := 6) (v := (.pointer (some ⟨D, 0, none⟩))) rfl (by kernel_rfl) (by kernel_rfl) (by kernel_rfl) (fun _ _ _ h => h) (.inl ⟨rfl, fun _ hS => exec_load rfl rfl (load_pd _ _ _ _ hS)⟩) S21 ?_
            simp only [List.getElem_toArray, List.getElem_cons_succ, List.getElem_cons_zero, Act.put, List.setIfInBounds_toArray, List.set_cons_succ, List.set_cons_zero]
            refine wpAnyH_all (rs := [1]) (by kernel_rfl) (by simp) ?_
            intro k hk
            simp only [List.mem_cons, List.mem_nil_iff, or_false] at hk
            subst hk
            refine wpOp_runw rfl rfl (wp_call_fn 19 #[.pointer (some ⟨D2, 0, none⟩)] (by simp [execOp, go_sem, Act.eval, resolve, invoke, enterPV]) ?_)
            refine (Save_any K0.d2).mono ?_
            rintro e wA ⟨x1, rfl, P1, b1⟩
            rw [HSAV.out] at P1
            have K1 := K0.next b1
            have hT1 := bytes_of_own P1
            refine ⟨K1.cX, ?_⟩
            simp only [List.getElem_toArray, List.getElem_cons_succ, List.getElem_cons_zero, Act.put, List.setIfInBounds_toArray, List.set_cons_succ, List.set_cons_zero]
            refine wpAnyH_all (rs := [2, 7]) (by kernel_rfl) (by simp) ?_
            intro k hk
            simp only [List.mem_cons, List.mem_nil_iff, or_false] at hk
            rcases hk with rfl | rfl
            · refine wpOp_runw rfl rfl (wp_conv _ rfl _ (.string ⟨(sav its).toArray⟩) rfl hT1.text ?_)
              refine ⟨K1.cX, ?_⟩
              simp only [List.getElem_toArray, List.getElem_cons_succ, List.getElem_cons_zero, Act.put, List.setIfInBounds_toArray, List.set_cons_succ, List.set_cons_zero]
              refine wpAnyH_all (rs := [7]) (by kernel_rfl) (by simp) ?_
              intro k hk
              simp only [List.mem_cons, List.mem_nil_iff, or_false] at hk
              subst hk
              refine wpOp_runw rfl rfl (wp_call_fn 19 #[.pointer (some ⟨D, 0, none⟩)] (by simp [execOp, go_sem, Act.eval, resolve, invoke, enterPV]) ?_)
              refine (Save_any K1.d1).mono ?_
              rintro e wB ⟨x2, rfl, P2, b2⟩
              have K2 := K1.next b2
              have hT2 := bytes_of_own P2
              have hT1b := hT1.below b2
              refine ⟨K2.cX, ?_⟩
              simp only [List.getElem_toArray, List.getElem_cons_succ, List.getElem_cons_zero, Act.put, List.setIfInBounds_toArray, List.set_cons_succ, List.set_cons_zero]
              refine wpAnyH_all (rs := [8]) (by kernel_rfl) (by simp) ?_
              intro k hk
              simp only [List.mem_cons, List.mem_nil_iff, or_false] at hk
              subst hk
              refine wpOp_runw rfl rfl (wp_conv _ rfl _ (.string ⟨(sav its).toArray⟩) rfl hT2.text ?_)
              refine ⟨K2.cX, ?_⟩
              simp only [List.getElem_toArray, List.getElem_cons_succ, List.getElem_cons_zero, Act.put, List.setIfInBounds_toArray, List.set_cons_succ, List.set_cons_zero]
              refine wpAnyH_take (i := 9) (v := (.bool true)) rfl (by kernel_rfl) (by kernel_rfl) (by kernel_rfl) (fun _ _ _ h => h) (.inl ⟨rfl, fun _ hS => by simp [execOp, go_sem, Act.eval]⟩) K2.cX ?_
              simp only [List.getElem_toArray, List.getElem_cons_succ, List.getElem_cons_zero, Act.put, List.setIfInBounds_toArray, List.set_cons_succ, List.set_cons_zero]
              refine wpAnyH_take (i := 10) (v := (.bool true)) rfl (by kernel_rfl) (by kernel_rfl) (by kernel_rfl) (fun _ _ _ h => h) (.inl ⟨rfl, fun _ hS => rfl⟩) K2.cX ?_
              simp only [List.getElem_toArray, List.getElem_cons_succ, List.getElem_cons_zero, Act.put, List.setIfInBounds_toArray, List.set_cons_succ, List.set_cons_zero]
              refine wpAnyH_all (rs := [11]) (by kernel_rfl) (by simp) ?_
              intro k hk
              simp only [List.mem_cons, List.mem_nil_iff, or_false] at hk
              subst hk
              refine wpOp_runw rfl rfl (wp_call_fn 9 #[] (by simp [execOp, go_sem, Act.eval, resolve, invoke, enterLv]) ?_)
              refine (hL8 wB).mono ?_
              rintro e wC ⟨rfl, b3⟩
              have K3 := K2.next b3
              refine ⟨K3.cX, ?_⟩
              simp only [List.getElem_toArray, List.getElem_cons_succ, List.getElem_cons_zero, Act.put, List.setIfInBounds_toArray, List.set_cons_succ, List.set_cons_zero]
              refine wpAnyH_take (i := 12) (v := (.bool true)) rfl (by kernel_rfl) (by kernel_rfl) (by kernel_rfl) (fun _ _ _ h => h) (.inl ⟨rfl, fun _ hS => by simp [execOp, go_sem, Act.eval]⟩) K3.cX ?_
              simp only [List.getElem_toArray, List.getElem_cons_succ, List.getElem_cons_zero, Act.put, List.setIfInBounds_toArray, List.set_cons_succ, List.set_cons_zero]
              refine wpAnyH_take (i := 13) (v := (.bool true)) rfl (by kernel_rfl) (by kernel_rfl) (by kernel_rfl) (fun _ _ _ h => h) (.inl ⟨rfl, fun _ hS => rfl⟩) K3.cX ?_
              simp only [List.getElem_toArray, List.getElem_cons_succ, List.getElem_cons_zero, Act.put, List.setIfInBounds_toArray, List.set_cons_succ, List.set_cons_zero]
              refine wpAnyH_done (by kernel_rfl) ?_ _
              have HF := hidOf2 K3.below
              clear K0 K1 K2 K3 P1 P2 hT1 hT2 hT1b b1 b2 b3 S21
              go_wp2
              go_ret
              exact ⟨rfl, HF.out⟩
            · refine wpOp_runw rfl rfl (wp_call_fn 19 #[.pointer (some ⟨D, 0, none⟩)] (by simp [execOp, go_sem, Act.eval, resolve, invoke, enterPV]) ?_)
              refine (Save_any K1.d1).mono ?_
              rintro e wB ⟨x2, rfl, P2, b2⟩
              have K2 := K1.next b2
              have hT2 := bytes_of_own P2
              have hT1b := hT1.below b2
              refine ⟨K2.cX, ?_⟩
              simp only [List.getElem_toArray, List.getElem_cons_succ, List.getElem_cons_zero, Act.put, List.setIfInBounds_toArray, List.set_cons_succ, List.set_cons_zero]
              refine wpAnyH_all (rs := [2, 8]) (by kernel_rfl) (by simp) ?_
              intro k hk
              simp only [List.mem_cons, List.mem_nil_iff, or_false] at hk
              rcases hk with rfl | rfl
              · refine wpOp_runw rfl rfl (wp_conv _ rfl _ (.string ⟨(sav its).toArray⟩) rfl hT1b.text ?_)
                refine ⟨K2.cX, ?_⟩
                simp only [List.getElem_toArray, List.getElem_cons_succ, List.getElem_cons_zero, Act.put, List.setIfInBounds_toArray, List.set_cons_succ, List.set_cons_zero]
                refine wpAnyH_all (rs := [8]) (by kernel_rfl) (by simp) ?_
                intro k hk
                simp only [List.mem_cons, List.mem_nil_iff, or_false] at hk
                subst hk
                refine wpOp_runw rfl rfl (wp_conv _ rfl _ (.string ⟨(sav its).toArray⟩) rfl hT2.text ?_)
                refine ⟨K2.cX, ?_⟩
                simp only [List.getElem_toArray, List.getElem_cons_succ, List.getElem_cons_zero, Act.put, List.setIfInBounds_toArray, List.set_cons_succ, List.set_cons_zero]
                refine wpAnyH_take (i := 9) (v := (.bool true)) rfl (by kernel_rfl) (by kernel_rfl) (by kernel_rfl) (fun _ _ _ h => h) (.inl ⟨rfl, fun _ hS => by simp [execOp, go_sem, Act.eval]⟩) K2.cX ?_
                simp only [List.getElem_toArray, List.getElem_cons_succ, List.getElem_cons_zero, Act.put, List.setIfInBounds_toArray, List.set_cons_succ, List.set_cons_zero]
                refine wpAnyH_take (i := 10) (v := (.bool true)) rfl (by kernel_rfl) (by kernel_rfl) (by kernel_rfl) (fun _ _ _ h => h) (.inl ⟨rfl, fun _ hS => rfl⟩) K2.cX ?_
                simp only [List.getElem_toArray, List.getElem_cons_succ, List.getElem_cons_zero, Act.put, List.setIfInBounds_toArray, List.set_cons_succ, List.set_cons_zero]
                refine wpAnyH_all (rs := [11]) (by kernel_rfl) (by simp) ?_
                intro k hk
                simp only [List.mem_cons, List.mem_nil_iff, or_false] at hk
                subst hk
                refine wpOp_runw rfl rfl (wp_call_fn 9 #[] (by simp [execOp, go_sem, Act.eval, resolve, invoke, enterLv]) ?_)
                refine (hL8 wB).mono ?_
                rintro e wC ⟨rfl, b3⟩
                have K3 := K2.next b3
                refine ⟨K3.cX, ?_⟩
                simp only [List.getElem_toArray, List.getElem_cons_succ, List.getElem_cons_zero, Act.put, List.setIfInBounds_toArray, List.set_cons_succ, List.set_cons_zero]
                refine wpAnyH_take (i := 12) (v := (.bool true)) rfl (by kernel_rfl) (by kernel_rfl) (by kernel_rfl) (fun _ _ _ h => h) (.inl ⟨rfl, fun _ hS => by simp [execOp, go_sem, Act.eval]⟩) K3.cX ?_
                simp only [List.getElem_toArray, List.getElem_cons_succ, List.getElem_cons_zero, Act.put, List.setIfInBounds_toArray, List.set_cons_succ, List.set_cons_zero]
                refine wpAnyH_take (i := 13) (v := (.bool true)) rfl (by kernel_rfl) (by kernel_rfl) (by kernel_rfl) (fun _ _ _ h => h) (.inl ⟨rfl, fun _ hS => rfl⟩) K3.cX ?_
                simp only [List.getElem_toArray, List.getElem_cons_succ, List.getElem_cons_zero, Act.put, List.setIfInBounds_toArray, List.set_cons_succ, List.set_cons_zero]
                refine wpAnyH_done (by kernel_rfl) ?_ _
                have HF := hidOf2 K3.below
                clear K0 K1 K2 K3 P1 P2 hT1 hT2 hT1b b1 b2 b3 S21
                go_wp2
                go_ret
                exact ⟨rfl, HF.out⟩
              · refine wpOp_runw rfl rfl (wp_conv _ rfl _ (.string ⟨(sav its).toArray⟩) rfl hT2.text ?_)
                refine ⟨K2.cX, ?_⟩
                simp only [List.getElem_toArray, List.getElem_cons_succ, List.getElem_cons_zero, Act.put, List.setIfInBounds_toArray, List.set_cons_succ, List.set_cons_zero]
                refine wpAnyH_all (rs := [2]) (by kernel_rfl) (by simp) ?_
                intro k hk
                simp only [List.mem_cons, List.mem_nil_iff, or_false] at hk
                subst hk
                refine wpOp_runw rfl rfl (wp_conv _ rfl _ (.string ⟨(sav its).toArray⟩) rfl hT1b.text ?_)
                refine ⟨K2.cX, ?_⟩
                simp only [List.getElem_toArray, List.getElem_cons_succ, List.getElem_cons_zero, Act.put, List.setIfInBounds_toArray, List.set_cons_succ, List.set_cons_zero]
                refine wpAnyH_take (i := 9) (v := (.bool true)) rfl (by kernel_rfl) (by kernel_rfl) (by kernel_rfl) (fun _ _ _ h => h) (.inl ⟨rfl, fun _ hS => by simp [execOp, go_sem, Act.eval]⟩) K2.cX ?_
                simp only [List.getElem_toArray, List.getElem_cons_succ, List.getElem_cons_zero, Act.put, List.setIfInBounds_toArray, List.set_cons_succ, List.set_cons_zero]
                refine wpAnyH_take (i := 10) (v := (.bool true)) rfl (by kernel_rfl) (by kernel_rfl) (by kernel_rfl) (fun _ _ _ h => h) (.inl ⟨rfl, fun _ hS => rfl⟩) K2.cX ?_
                simp only [List.getElem_toArray, List.getElem_cons_succ, List.getElem_cons_zero, Act.put, List.setIfInBounds_toArray, List.set_cons_succ, List.set_cons_zero]
                refine wpAnyH_all (rs := [11]) (by kernel_rfl) (by simp) ?_
                intro k hk
                simp only [List.mem_cons, List.mem_nil_iff, or_false] at hk
                subst hk
                refine wpOp_runw rfl rfl (wp_call_fn 9 #[] (by simp [execOp, go_sem, Act.eval, resolve, invoke, enterLv]) ?_)
                refine (hL8 wB).mono ?_
                rintro e wC ⟨rfl, b3⟩
                have K3 := K2.next b3
                refine ⟨K3.cX, ?_⟩
                simp only [List.getElem_toArray, List.getElem_cons_succ, List.getElem_cons_zero, Act.put, List.setIfInBounds_toArray, List.set_cons_succ, List.set_cons_zero]
                refine wpAnyH_take (i := 12) (v := (.bool true)) rfl (by kernel_rfl) (by kernel_rfl) (by kernel_rfl) (fun _ _ _ h => h) (.inl ⟨rfl, fun _ hS => by simp [execOp, go_sem, Act.eval]⟩) K3.cX ?_
                simp only [List.getElem_toArray, List.getElem_cons_succ, List.getElem_cons_zero, Act.put, List.setIfInBounds_toArray, List.set_cons_succ, List.set_cons_zero]
                refine wpAnyH_take (i := 13) (v := (.bool true)) rfl (by kernel_rfl) (by kernel_rfl) (by kernel_rfl) (fun _ _ _ h => h) (.inl ⟨rfl, fun _ hS => rfl⟩) K3.cX ?_
                simp only [List.getElem_toArray, List.getElem_cons_succ, List.getElem_cons_zero, Act.put, List.setIfInBounds_toArray, List.set_cons_succ, List.set_cons_zero]
                refine wpAnyH_done (by kernel_rfl) ?_ _
                have HF := hidOf2 K3.below
                clear K0 K1 K2 K3 P1 P2 hT1 hT2 hT1b b1 b2 b3 S21
                go_wp2
                go_ret
                exact ⟨rfl, HF.out⟩
  · obtain rfl := HB2.out hc
    have hS := hL8 w1
    clear HG HB2
    go_wp2_with fail
    refine hS.mono ?_
    rintro e w3 ⟨rfl, b3⟩
    have B3 := B1.trans (b3.mono B1.size)
    clear hS
    go_wp2
    go_ret
    exact ⟨rfl, B3⟩
end Go.Proofs.Ytdcogpadioeclaa
namespace Go.Proofs.Ytdcogpadioeclaa
open Go.ChangeShapes Go.WideShapes Go.ChangeAt Go.RowKit Go.Proofs.Ty
open Go.ChangeMaps (open_string shut_string)
set_option linter.unusedVariables false
set_option maxRecDepth 1000000

set_option maxRecDepth 100000 in
theorem odKept_lifted (os : Os) (started : os.Started) (H : Type) (enc : TypeId × Value → H) :
    ReturnsInHanded {} Try.checked os 5 .any (Rows.odKeptSpec.pre6 enc Try.prog Try.f5 Rows.odKeptRow.domain false) (Rows.odKeptSpec.post enc Try.prog Try.f5 false true false false) := by
  refine returnsInHanded_of_change_sized (C := Try.checked) own started (by kernel_rfl) Try.func5
    (ChangeSpec.witness6 (enc := enc) (C := Try.checked) false ⟨#[], #[.slice none 0 0, .slice none 0 0], []⟩ 8 (by kernel_rfl) (by kernel_rfl) (by kernel_rfl) (by kernel_rfl)) ?_
  intro W base args ds gs before hval0 hW hcnd hsz _
  have hval : ∀ (j : Nat) t v, Try.f5.params[j]? = some t → args[j]? = some v → Value.okWide Try.prog W .any base t v := hval0
  have hW' := hW
  obtain ⟨p, q, hA0, hV, rfl, hfz, hnd⟩ := hW
  have hA : DataW.TrodAll enc Try.prog W 0 (fun _ => true) true Try.f5.params.toList args.toList ds p := hA0
  rw [Try.params5] at hA hval hsz
  obtain ⟨v0, vs0, d0, ds0, p0, q0, hargs, rfl, rfl, h0, r0⟩ := trodAll_cons hA
  obtain ⟨v1, vs1, d1, ds1, p1, q1, rfl, rfl, rfl, h1, r1⟩ := trodAll_cons r0
  obtain ⟨rfl, rfl, rfl⟩ := trodAll_nil r1
  obtain rfl : args = #[v0, v1] := by cases args; simp_all
  obtain ⟨rfl, rfl⟩ := trodVars_none hV
  have lt0 : ∀ x ∈ p0, x.block < W.heap.size := by obtain ⟨m, hm⟩ := h0; exact DataW.trod_lt m _ _ _ hm
  obtain ⟨l0, w0, e0⟩ := open_entries (hval 0 22 v0 rfl rfl) h0 lt0
  have z0 := size_entries (j := 0) hsz rfl rfl e0
  have lt1 : ∀ x ∈ p1, x.block < W.heap.size := by obtain ⟨m, hm⟩ := h1; exact DataW.trod_lt m _ _ _ hm
  obtain ⟨l1, w1, e1⟩ := open_acts8c (hval 1 23 v1 rfl rfl) h1 lt1
  have z1 := size_acts8c (j := 1) hsz rfl rfl e1
  clear hA0 hval0
  refine (okept_walk _ _ l0 l1 W w0 w1 z0 z1.1 z1.2).mono fun e W' ⟨he, bel⟩ => ?_
  subst he
  exact ⟨_, rfl, _, _, _, [], _, [], hW', trodAll_mk1 (shut_bool Try.underlying4 _), (trodAll_cons_mk (Below.trod laidOut (by kernel_rfl) (of_decide_eq_true (by kernel_rfl)) h0 bel lt0) (trodAll_cons_mk (Below.trod laidOut (by kernel_rfl) (of_decide_eq_true (by kernel_rfl)) h1 bel lt1) trodAll_mk0)), rfl, bel.frame _, fun h => by cases h⟩

theorem odKept_holds : Rows.OdKeptSaid :=
  OpenClaim.holds_of_wide 5 Try.f5 rfl rfl rfl rfl rfl rfl rfl ⟨rfl, rfl, rfl, rfl, rfl⟩ rfl rfl rfl rfl rfl (by kernel_rfl) Try.func5 (by kernel_rfl)
    (of_decide_eq_true (by kernel_rfl)) (by unfold Func.isWrapper; first | (rw [if_pos (by decide +kernel)]; kernel_rfl) | (rw [if_neg (by decide +kernel)]; exact ⟨rfl, rfl⟩))
    (fun os started H enc _ => odKept_lifted os started H enc)
end Go.Proofs.Ytdcogpadioeclaa
