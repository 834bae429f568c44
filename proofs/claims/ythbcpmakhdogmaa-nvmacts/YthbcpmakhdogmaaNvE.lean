/- Contracts: Load, Erase. -/
import Derived.Test.YthbcpmakhdogmaaNvL
namespace Go.Proofs.Ythbcpmakhdogmaa
open Go.RowKit Go.Proofs.Ty Go.Proofs.Nv Go.Proofs.Bits
set_option linter.unusedVariables false
set_option maxRecDepth 1000000
set_option linter.unusedSimpArgs false
section
variable {C P : Nat} {c : Ch} {w : World}
theorem Load_nil (w : World) : Calls Try.prog 10 #[.pointer none] w fun e w' => e = .returned (.tuple #[.slice none 0 0, .bool false]) ∧ w' = w := by
  go_enter Try.func10, Try.ntmps10
  go_wp2
  go_ret2
  exact ⟨rfl, rfl⟩
theorem neq_zeroN (k : Nat) : ((k : Int) != 0) = (k != 0) := by
  cases h : (k != 0)
  · simp at h; simp [h]
  · simp at h; simp; omega
/-- What Load does behind halvesOf, at the half that is the latest. -/
theorem load_at (x : World) (q j f k : Nat) (v : Value) (A : Array Value) (hq : x.heap[q]? = some (.cells A 57 (0, 0))) (h0 : A[j]? = some (.int .i64 f)) (h1 : A[j + 1]? = some (.int .u16 k)) (h2 : A[j + 2]? = some v) : x.rangeAt q j [.int .i64 f, .int .u16 k, v] := by
  intro i u hu
  rw [Lib.cell_of_heap hq]
  match i, hu with
  | 0, hu => simp at hu; subst hu; exact h0
  | 1, hu => simp at hu; subst hu; exact h1
  | 2, hu => simp at hu; subst hu; exact h2
  | i + 3, hu => simp at hu
set_option maxHeartbeats 4000000 in
theorem Load_any (h : Cm C P c w) :
    Calls Try.prog 10 #[.pointer (some ⟨C, 0, none⟩)] w fun e w' => ∃ v, e = .returned (.tuple #[v, .bool (c.kept.1 != 0)]) ∧ Bytes w' v c.kept.2 ∧ Below w.heap.size w w' ∧ Fr w.heap.size v := by
  have hh := halvesOf_any h
  have l0 : (c.holds 0).1 < 65536 := hs_fst _ _
  have l1 : (c.holds c.many).1 < 65536 := hs_fst _ _
  have HK : Hid (c.kept = if lat (c.holds 0).1 (c.holds c.many).1 = 1 then c.holds c.many else c.holds 0) := rfl
  have hlat : lat (c.holds 0).1 (c.holds c.many).1 = 0 ∨ lat (c.holds 0).1 (c.holds c.many).1 = 1 := by unfold lat; split <;> simp
  generalize c.holds 0 = R0 at *
  generalize c.holds c.many = R1 at *
  generalize c.kept = K at *
  obtain ⟨k0, b0⟩ := R0
  obtain ⟨k1, b1⟩ := R1
  simp only at hh l0 l1 HK hlat
  have HW : Hid (∀ (x : World) (v u : Value), Below w.heap.size w x → Bytes x v b0 → Bytes x u b1 → ∃ y q, x.alloc (.cells #[.int .i64 0, .int .u16 0, .slice none 0 0, .int .i64 0, .int .u16 0, .slice none 0 0] 57) = y ∧ x.heap.size = q ∧ y.heap[q]? = some (.cells #[.int .i64 0, .int .u16 0, .slice none 0 0, .int .i64 0, .int .u16 0, .slice none 0 0] 57 (0, 0)) ∧ ∃ z, y.setRow q (hvA 0 k0 v c.many k1 u) = z ∧ z.heap[q]? = some (.cells (hvA 0 k0 v c.many k1 u) 57 (0, 0)) ∧ Hid (Below w.heap.size w z) ∧ Hid (Bytes z v b0) ∧ Hid (Bytes z u b1) ∧ Calls Try.prog 21 #[.agg (hvA 0 k0 v c.many k1 u)] z (fun e w' => e = .returned (.int .i64 (lat k0 k1)) ∧ Below z.heap.size z w')) := by
    intro x v u hx hv hu
    have hq := heap_alloc_new x (.cells #[.int .i64 0, .int .u16 0, .slice none 0 0, .int .i64 0, .int .u16 0, .slice none 0 0] 57 (0, 0))
    have b1 := hx.alloc hx.size (.cells #[.int .i64 0, .int .u16 0, .slice none 0 0, .int .i64 0, .int .u16 0, .slice none 0 0] 57)
    have bx : Below x.heap.size x (x.alloc (.cells #[.int .i64 0, .int .u16 0, .slice none 0 0, .int .i64 0, .int .u16 0, .slice none 0 0] 57)) := (Below.refl _ _).alloc (Nat.le_refl _) _
    exact ⟨_, _, rfl, rfl, hq, _, rfl, Go.Proofs.Ythbcpmakhdogmaa.setRow_heap _ _ _ _ _ _ hq, below_row b1 hx.size b1.size _, bytes_rowH (hv.below bx) hq hv_no _, bytes_rowH (hu.below bx) hq hv_no _, latest_any 0 k0 c.many k1 v u _ l0 l1⟩
  have HV : Hid (∀ (x : World) (v : Value) (b : List UInt8) (f k : Nat), Below w.heap.size w x → Bytes x v b → ∃ y q, x.alloc (.cells #[.int .i64 0, .int .u16 0, .slice none 0 0] 56) = y ∧ x.heap.size = q ∧ y.heap[q]? = some (.cells #[.int .i64 0, .int .u16 0, .slice none 0 0] 56 (0, 0)) ∧ ∃ z, y.setRow q (hfA f k v) = z ∧ z.cell? ⟨q, 1, none⟩ = some (.int .u16 k) ∧ z.cell? ⟨q, 2, none⟩ = some v ∧ Hid (Below w.heap.size w z) ∧ Hid (Bytes z v b)) := by
    intro x v b f k hx hv
    have hq := heap_alloc_new x (.cells #[.int .i64 0, .int .u16 0, .slice none 0 0] 56 (0, 0))
    have b1 := hx.alloc hx.size (.cells #[.int .i64 0, .int .u16 0, .slice none 0 0] 56)
    have bx : Below x.heap.size x (x.alloc (.cells #[.int .i64 0, .int .u16 0, .slice none 0 0] 56)) := (Below.refl _ _).alloc (Nat.le_refl _) _
    have hz := Go.Proofs.Ythbcpmakhdogmaa.setRow_heap _ x.heap.size _ (hfA f k v) _ _ hq
    exact ⟨_, _, rfl, rfl, hq, _, rfl, Lib.cell_of_heap hz 1, Lib.cell_of_heap hz 2, below_row b1 hx.size b1.size _, bytes_rowH (hv.below bx) hq hf_no _⟩
  clear h
  rcases hlat with hl | hl
  · have HK1 : Hid (K = (k0, b0)) := by show K = _; rw [HK.out, if_neg (by omega)]
    rw [hl] at HW
    clear hl HK
    have hnz := neq_zeroN k0
    go_enter Try.func10, Try.ntmps10
    go_upto_region 5 with (first | (go_at_call 20; refine hh.mono ?_; rintro e w1 ⟨v, u, rfl, hv, hu, hb, hfv, hfu⟩; have HFV := hidOf hfv; have HFU := hidOf hfu; clear hfv hfu; obtain ⟨y1, q1, hy1, hq1s, hq1, z1, hz1, hqz1, HBz1, HVz1, HUz1, hlt⟩ := HW.out w1 v u hb hv hu; clear HW hb; have hov := oneSlice hv; have hou := oneSlice hu; clear hv hu) | (refine wpList_store_row rfl 57 _ _ rfl q1 (hvA 0 k0 v c.many k1 u) rfl rfl 57 _ hq1 infoHv rfl (hvA_one _ _ _ _ _ _ hov hou) ?_; rw [hz1]; clear hz1 hy1 hq1) | (refine wpList_load_row rfl 57 _ rfl q1 rfl 57 (hvA 0 k0 v c.many k1 u) (0, 0) _ hqz1 Try.underlying57 rfl infoHv ?_) | (go_at_call 21; refine hlt.mono ?_; rintro e w2 ⟨rfl, hb2⟩; have hrg := load_at w2 q1 0 0 k0 v _ ((hb2.block q1 (Array.getElem?_eq_some_iff.1 hqz1).1).trans hqz1) rfl rfl rfl; obtain ⟨y2, q2, hy2, hq2s, hq2, z2, hz2, c1, c2, HBz2, HVz2⟩ := HV.out w2 v b0 0 k0 (HBz1.out.trans (hb2.mono HBz1.out.size)) (HVz1.out.below hb2); clear HV hlt) | (refine wpList_load_mid rfl 56 _ rfl q1 0 rfl _ _ hrg Try.underlying56 rfl infoHf ?_) | (refine wpList_store_row rfl 56 _ _ rfl q2 (hfA 0 k0 v) rfl rfl 56 _ hq2 infoHf rfl (hfA_one _ _ _ hov) ?_; rw [hz2]; clear hz2 hy2 hq2))
    have HV9 := HVz2
    obtain ⟨av, cv, hav⟩ := bytes_shapeN HVz2.out
    obtain ⟨nb, hnb⟩ : ∃ n, b0.length = n := ⟨_, rfl⟩
    rw [hnb] at hav
    clear hnb
    subst hav
    simp only [Act.put]
    clear hh hrg hqz1 HVz1 HUz1 HBz1 hov hou HVz2
    go_wp2_with fail
    go_quiet (fail)
    go_wp2
    go_ret2
    refine ⟨.slice av nb cv, by rw [HK1.out]; rfl, by rw [HK1.out]; exact HV9.out.below (bdr (Below.refl _ _) _), bdr HBz2.out _, HFV.out⟩
  · have HK1 : Hid (K = (k1, b1)) := by show K = _; rw [HK.out, if_pos hl]
    rw [hl] at HW
    clear hl HK
    have hnz := neq_zeroN k1
    go_enter Try.func10, Try.ntmps10
    go_upto_region 5 with (first | (go_at_call 20; refine hh.mono ?_; rintro e w1 ⟨v, u, rfl, hv, hu, hb, hfv, hfu⟩; have HFV := hidOf hfv; have HFU := hidOf hfu; clear hfv hfu; obtain ⟨y1, q1, hy1, hq1s, hq1, z1, hz1, hqz1, HBz1, HVz1, HUz1, hlt⟩ := HW.out w1 v u hb hv hu; clear HW hb; have hov := oneSlice hv; have hou := oneSlice hu; clear hv hu) | (refine wpList_store_row rfl 57 _ _ rfl q1 (hvA 0 k0 v c.many k1 u) rfl rfl 57 _ hq1 infoHv rfl (hvA_one _ _ _ _ _ _ hov hou) ?_; rw [hz1]; clear hz1 hy1 hq1) | (refine wpList_load_row rfl 57 _ rfl q1 rfl 57 (hvA 0 k0 v c.many k1 u) (0, 0) _ hqz1 Try.underlying57 rfl infoHv ?_) | (go_at_call 21; refine hlt.mono ?_; rintro e w2 ⟨rfl, hb2⟩; have hrg := load_at w2 q1 3 c.many k1 u _ ((hb2.block q1 (Array.getElem?_eq_some_iff.1 hqz1).1).trans hqz1) rfl rfl rfl; obtain ⟨y2, q2, hy2, hq2s, hq2, z2, hz2, c1, c2, HBz2, HVz2⟩ := HV.out w2 u b1 c.many k1 (HBz1.out.trans (hb2.mono HBz1.out.size)) (HUz1.out.below hb2); clear HV hlt) | (refine wpList_load_mid rfl 56 _ rfl q1 3 rfl _ _ hrg Try.underlying56 rfl infoHf ?_) | (refine wpList_store_row rfl 56 _ _ rfl q2 (hfA c.many k1 u) rfl rfl 56 _ hq2 infoHf rfl (hfA_one _ _ _ hou) ?_; rw [hz2]; clear hz2 hy2 hq2))
    have HV9 := HVz2
    obtain ⟨av, cv, hav⟩ := bytes_shapeN HVz2.out
    obtain ⟨nb, hnb⟩ : ∃ n, b1.length = n := ⟨_, rfl⟩
    rw [hnb] at hav
    clear hnb
    subst hav
    simp only [Act.put]
    clear hh hrg hqz1 HVz1 HUz1 HBz1 hov hou HVz2
    go_wp2_with fail
    go_quiet (fail)
    go_wp2
    go_ret2
    refine ⟨.slice av nb cv, by rw [HK1.out]; rfl, by rw [HK1.out]; exact HV9.out.below (bdr (Below.refl _ _) _), bdr HBz2.out _, HFU.out⟩
theorem Erase_nil (w : World) : Calls Try.prog 13 #[.pointer none] w fun e w' => e = .returned (.int .i64 1) ∧ w' = w := by
  go_enter Try.func13, Try.ntmps13
  go_wp2
  go_ret
  exact ⟨rfl, rfl⟩
set_option maxHeartbeats 2000000 in
theorem Erase_any (h : Cm C P c w) : Calls Try.prog 13 #[.pointer (some ⟨C, 0, none⟩)] w fun e w' => e = .returned (.int .i64 c.erase.2) ∧ Cm C P c.erase.1 w' ∧ Two C P w w' := by
  have hd := Dead_any h
  have hc := clearHead_any h 0
  have HE : Hid (c.erase = if c.dead then (c, 6) else if (c.wr ((0 : Nat) : Int) zero8).2 = false then ((c.wr ((0 : Nat) : Int) zero8).1, 6) else (((c.wr ((0 : Nat) : Int) zero8).1.wr c.many zero8).1, if ((c.wr ((0 : Nat) : Int) zero8).1.wr c.many zero8).2 then 0 else 6)) := rfl
  have HM : Hid ((c.wr ((0 : Nat) : Int) zero8).1.many = c.many) := by show _ = _; unfold Ch.many; rw [Ch.wr_n]
  obtain ⟨⟨d, o⟩, hdo⟩ : ∃ x, c.wr ((0 : Nat) : Int) zero8 = x := ⟨_, rfl⟩
  rw [hdo] at hc HE HM
  simp only at hc HE HM
  obtain ⟨⟨d2, o2⟩, hdo2⟩ : ∃ x, d.wr c.many zero8 = x := ⟨_, rfl⟩
  rw [hdo2] at HE
  simp only at HE
  have HP : Hid (∀ x, Cm C P d x → Calls Try.prog 22 #[.pointer (some ⟨C, 0, none⟩)] x (fun e w' => e = .returned (.int .i64 c.many) ∧ w' = x) ∧ Calls Try.prog 24 #[.pointer (some ⟨C, 0, none⟩), .int .i64 c.many] x fun e w' => e = .returned (.bool o2) ∧ Cm C P d2 w' ∧ Two C P x w') := fun x hx => by
    have h1 := halfPages_any hx
    have h2 := clearHead_any hx c.many
    rw [HM.out] at h1
    rw [hdo2] at h2
    exact ⟨h1, h2⟩
  have hwt := written_any
  have HC := hidOf h
  generalize c.erase = E at *
  generalize c.many = mn at *
  clear hdo hdo2 h HM
  cases hdd : c.dead with
  | true =>
    rw [hdd] at hd HE
    have HE1 : Hid (E = (c, 6)) := HE.out
    go_enter Try.func13, Try.ntmps13
    go_wp2_with (go_at_call 18; refine hd.mono ?_; rintro e x1 ⟨rfl, hx1⟩; rw [hx1]; clear hx1 x1)
    go_ret
    exact ⟨ret_int (by rw [HE1.out]; rfl), by rw [HE1.out]; exact HC.out, Two.refl _ _ _⟩
  | false =>
    rw [hdd] at hd HE
    cases o with
    | false =>
      have HE1 : Hid (E = (d, 6)) := HE.out
      have hw0 := hwt false
      go_enter Try.func13, Try.ntmps13
      go_wp2_with (first | (go_at_call 18; refine hd.mono ?_; rintro e x1 ⟨rfl, hx1⟩; rw [hx1]; clear hx1 x1) | (go_at_call 24; refine hc.mono ?_; clear hc; rintro e w2 ⟨rfl, h2, t2⟩; have HC2 := hidOf h2; have HT2 := hidOf t2; clear h2 t2) | (go_at_call 23; refine (hw0 _).mono ?_; rintro e x1 ⟨rfl, hx1⟩; rw [hx1]; clear hx1 x1))
      go_ret
      exact ⟨ret_int (by rw [HE1.out]; rfl), by rw [HE1.out]; exact HC2.out, HT2.out⟩
    | true =>
      have HE1 : Hid (E = (d2, if o2 then 0 else 6)) := HE.out
      clear HE
      cases o2
      all_goals
        have hw0 := hwt
        go_enter Try.func13, Try.ntmps13
        go_wp2_with (first | (go_at_call 18; refine hd.mono ?_; rintro e x1 ⟨rfl, hx1⟩; rw [hx1]; clear hx1 x1) | (go_at_call 24; refine hc.mono ?_; clear hc; rintro e w2 ⟨rfl, h2, t2⟩; have HT2 := hidOf t2; obtain ⟨hhp, hc2⟩ := HP.out w2 h2; clear h2 t2) | (go_at_call 22; refine hhp.mono ?_; rintro e x1 ⟨rfl, hx1⟩; rw [hx1]; clear hx1 x1) | (go_at_call 24; refine hc2.mono ?_; clear hc2; rintro e w3 ⟨rfl, h3, t3⟩; have HC3 := hidOf h3; have HT3 := hidOf t3; clear h3 t3) | (go_at_call 23; refine (hw0 _ _).mono ?_; rintro e x1 ⟨rfl, hx1⟩; rw [hx1]; clear hx1 x1))
        go_ret
        exact ⟨ret_int (by rw [HE1.out]; rfl), by rw [HE1.out]; exact HC3.out, HT2.out.trans HT3.out⟩
end
end Go.Proofs.Ythbcpmakhdogmaa
