/- The law PdomapBack returns true for every slice of entries, every slice of slots and every slice of bytes, and leaves all of them as they were. -/
import Derived.Test.YthalhidebkhclaaXc1
import Derived.Deep.DeepCutAuto
namespace Go.Proofs.Ythalhidebkhclaa
open Go.RowKit Go.Proofs.Ty Go.Sort Go.Lib
set_option linter.unusedVariables false
set_option maxRecDepth 1000000
set_option linter.unusedSimpArgs false
def cdT (L : List En) (ix k : Nat) : Nat := if (L.take k).any (fun e => e.ix == ix) then 101253137 else 100794368
def NoT (L : List En) (ix sb k : Nat) : Prop := ∀ m (hm : m < L.length), m < k → ¬ (L[m].ix = ix ∧ L[m].sb = sb)
theorem cdT_hit {L : List En} {ix k : Nat} (hk : k < L.length) (h : L[k].ix = ix) : cdT L ix (k + 1) = 101253137 := by
  unfold cdT
  rw [List.take_succ_eq_append_getElem hk, List.any_append, if_pos]
  simp [h]
theorem cdT_miss {L : List En} {ix k : Nat} (hk : k < L.length) (h : L[k].ix ≠ ix) : cdT L ix (k + 1) = cdT L ix k := by
  unfold cdT
  rw [List.take_succ_eq_append_getElem hk, List.any_append]
  simp [h]
theorem NoT.step {L : List En} {ix sb k : Nat} (h : NoT L ix sb k) (hk : k < L.length) (hn : ¬ (L[k].ix = ix ∧ L[k].sb = sb)) : NoT L ix sb (k + 1) := by
  intro m hm h1
  rcases Nat.lt_or_ge m k with h3 | h3
  · exact h m hm h3
  · have : m = k := by omega
    subst this; exact hn
theorem NoT.hit {L : List En} {ix sb k : Nat} (h : NoT L ix sb k) (hk : k < L.length) (h1 : L[k].ix = ix) (h2 : L[k].sb = sb) : fiN L ix sb = k ∧ fiC L ix sb = 0 := by
  have : L.findIdx? (fun e => e.ix == ix && e.sb == sb) = some k := by
    rw [List.findIdx?_eq_some_iff_getElem]
    refine ⟨hk, by simp [h1, h2], fun j hj => ?_⟩
    have := h j (by omega) hj
    simpa using this
  unfold fiN fiC
  rw [this]
  exact ⟨rfl, rfl⟩
theorem NoT.miss {L : List En} {ix sb : Nat} (h : NoT L ix sb L.length) : fiN L ix sb = 0 ∧ fiC L ix sb = cdT L ix L.length := by
  have : L.findIdx? (fun e => e.ix == ix && e.sb == sb) = none := by
    rw [List.findIdx?_eq_none_iff]
    intro e he
    obtain ⟨j, hj, rfl⟩ := List.getElem_of_mem he
    have := h j hj hj
    simpa using this
  unfold fiN fiC cdT
  rw [this, List.take_length]
  exact ⟨rfl, rfl⟩
set_option maxHeartbeats 4000000 in
theorem QFind_any {E : Nat} {L : List En} {vL : Value} {V : List Vl} {vV : Value} {w : World} (h : Rd E L vL V vV w) (hl : L.length ≤ 1024) (ix sb : Nat) :
    Calls Try.prog 23 #[.pointer (some ⟨E, 0, none⟩), .int .u16 ix, .int .u8 sb] w fun e w' => e = .returned (.tuple #[.int .i64 (fiN L ix sb), .int .u32 (fiC L ix sb)]) ∧ w' = w := by
  obtain ⟨aL, cL, rfl⟩ := h.rowL.wide.shape
  have c0 := h.c.1
  have HW := hidOf2 h.rowL.wide
  have HM := hidOf2 (@NoT.miss L ix sb)
  have HH := hidOf2 (fun k => @NoT.hit L ix sb k)
  generalize fiN L ix sb = FN at *
  generalize fiC L ix sb = FC at *
  clear h
  go_enter Try.func23, Try.ntmps23
  go_wp2
  go_loop [8, 9] (fun c i => ∃ k : Nat, k ≤ L.length ∧ i = .int .i64 k ∧ c = .int .u32 (cdT L ix k) ∧ Hid (NoT L ix sb k)) (fun _ i => L.length - (intOf i).toNat)
  case atStart => exact ⟨0, Nat.zero_le _, rfl, rfl, fun m hm h => by omega⟩
  case round =>
    obtain ⟨k, hk, rfl, rfl, HN⟩ := hrel
    by_cases hkl : k < L.length
    · obtain ⟨b, off, cp, hv, hb, hR⟩ := HW.out.at0 k hkl
      injection hv with hv1 _ hv3
      subst hv1
      subst hv3
      have k0 := hR 0 _ rfl
      have k1 := hR 1 _ rfl
      simp only [Nat.add_zero] at k0
      have HT := hidOf2 (HN.out.step hkl)
      have HC1 := hidOf2 (@cdT_hit L ix k hkl)
      have HC2 := hidOf2 (@cdT_miss L ix k hkl)
      have HH1 := hidOf2 (HH.out k HN.out hkl)
      clear hR hb HN
      generalize L[k].ix = X1 at *
      generalize L[k].sb = X2 at *
      by_cases hx : X1 = ix
      · subst hx
        have e0 := hidOf2 (HC1.out rfl)
        by_cases hy : X2 = sb
        · subst hy
          have e1 := hidOf2 (HH1.out rfl rfl)
          clear HC1 HC2 HT HH1
          generalize cdT L X1 k = C at *
          go_wp2
          go_ret2
          exact ⟨by rw [e1.out.1, e1.out.2]; rfl, rfl⟩
        · have d3 : ((X2 : Int) == (sb : Int)) = false := by simp; omega
          have e1 := hidOf2 (HT.out (fun h => hy h.2))
          clear HC1 HC2 HT HH1
          generalize cdT L X1 k = C at *
          go_wp2
          go_round
          case rel => exact ⟨k + 1, by omega, by go_num, by rw [e0.out]; rfl, e1⟩
          case measure => simp [intOf]; omega
      · have d3 : ((X1 : Int) == (ix : Int)) = false := by simp; omega
        have e0 := hidOf2 (HC2.out hx)
        have e1 := hidOf2 (HT.out (fun h => hx h.1))
        clear HC1 HC2 HT HH1
        generalize cdT L ix k = C at *
        go_wp2
        go_round
        case rel => exact ⟨k + 1, by omega, by go_num, by rw [e0.out], e1⟩
        case measure => simp [intOf]; omega
    · have e1 : k = L.length := by omega
      subst e1
      have e2 := hidOf2 (HM.out HN.out)
      clear HN HM HH
      generalize cdT L ix L.length = C at *
      go_wp2
      go_ret2
      exact ⟨by rw [e2.out.1, e2.out.2]; rfl, rfl⟩
/-- The k-th entry of the document's dictionary, its value. -/
theorem Rd.atI {E : Nat} {its : List Im} {vL vV : Value} {w : World} (h : Rd E (its.map Im.e) vL (its.map Im.v) vV w) {k : Nat} (hk : k < its.length) : ∃ lb lo cL vb vo cV, vL = .slice (some ⟨lb, lo, none⟩) its.length cL ∧ vV = .slice (some ⟨vb, vo, none⟩) its.length cV ∧ lb < w.heap.size ∧ vb < w.heap.size ∧ w.rangeAt lb (lo + k * 14) (enC its[k].e) ∧ w.rangeAt vb (vo + k * 3) (vlC its[k].v) := by
  obtain ⟨lb, lo, cL, h1, h2, h3⟩ := h.rowL.wide.at0 k (by simpa using hk)
  obtain ⟨vb, vo, cV, g1, g2, g3⟩ := h.rowV.wide.at0 k (by simpa using hk)
  rw [List.length_map] at h1 g1
  rw [List.getElem_map] at h3 g3
  exact ⟨lb, lo, cL, vb, vo, cV, h1, g1, h2, g2, h3, g3⟩
end Go.Proofs.Ythalhidebkhclaa
namespace Go.Proofs.Ythalhidebkhclaa
open Go.RowKit Go.Shelf Go.Proofs.Ty
set_option linter.unusedVariables false
set_option maxRecDepth 1000000
set_option linter.unusedSimpArgs false
theorem below_drawn13 {B : Nat} {w w' : World} (h : Below B w w') (m : Nat) : Below B w (w'.drewN m) := ⟨h.os, h.tape, h.output, h.size, h.block⟩
theorem ck_at {its : List Im} {inn : Bool} {L : List Sl} (k : Nat) (hk : k < L.length) (h0 : ∀ j, j < k → ck1 its inn L j = 0) (hx : ck1 its inn L k ≠ 0) : ckC its inn L = ck1 its inn L k :=
  ckC_some its inn L (k + 1) hk (List.range k) k List.range_succ (fun y hy => h0 y (by simpa using hy)) hx
theorem ck_end {its : List Im} {inn : Bool} {L : List Sl} (h0 : ∀ j, j < L.length → ck1 its inn L j = 0) : ckC its inn L = 0 := ckC_none _ _ _ (fun k hk => h0 k (by simpa using hk))
set_option maxHeartbeats 8000000 in
theorem r13Check_any {E : Nat} {its : List Im} {vL : Value} {V : List Vl} {vV : Value} {w : World} (h : Rd E (its.map Im.e) vL V vV w) (hl : its.length ≤ 1024) (vs : Value) (L : List Sl) (hWs : Wide 3 slC w vs L) (hL : L.length ≤ 8796093022000) (inn : Bool) :
    Calls Try.prog 11 #[.pointer (some ⟨E, 0, none⟩), vs, .bool inn] w fun e w' => e = .returned (.int .u32 (ckC its inn L : Nat)) ∧ Below w.heap.size w w' := by
  obtain ⟨aS, cS, hvs⟩ := hWs.shape
  subst hvs
  obtain ⟨aL, cL, hvL⟩ := h.rowL.wide.shape
  subst hvL
  have HW := hidOf2 (fun (y : World) (hy : Below w.heap.size w y) => (show Wide 3 slC y (.slice aS L.length cS) L from hWs.same hy.size (fun b _ hl => hy.block b hl)))
  have HR := hidOf2 (fun (y : World) (hy : Below w.heap.size w y) => h.below hy)
  have HA := hidOf2 (fun k hk h0 hx => @ck_at its inn L k hk h0 hx)
  have HE := hidOf2 (fun h0 => @ck_end its inn L h0)
  generalize hCC : ckC its inn L = CC at *
  clear h hWs hCC
  go_enter Try.func11, Try.ntmps11
  go_wp2
  go_loopw [7, 8] (fun sv i x => ∃ k : Nat, k ≤ L.length ∧ i = .int .i64 k ∧ sv = .int .i64 (en L k) ∧ Hid (∀ j, j < k → ck1 its inn L j = 0) ∧ Below w.heap.size w x) (fun _ i _ => L.length - (intOf i).toNat)
  case atStart => exact ⟨0, Nat.zero_le _, rfl, rfl, fun j hj => by omega, Below.refl _ _⟩
  case round =>
    obtain ⟨k, hk, rfl, rfl, HJ, B1⟩ := hrel
    by_cases hkl : k < L.length
    · obtain ⟨ao', cap', hv', _, hcs⟩ := HW.out wr B1
      injection hv' with e1 e8 e9
      clear e8 e9
      obtain ⟨b, off, he2, hb, hRg⟩ := hcs k hkl
      rw [he2] at e1
      subst e1
      have c0 := hRg 0 _ rfl
      have c1 := hRg 1 _ rfl
      have c2 := hRg 2 _ rfl
      simp only [Nat.add_zero] at c0
      have hgd : L.getD k Sl.nul = L[k] := by simp [List.getD_eq_getElem?_getD, hkl]
      have hix := L[k].hx
      have hsb := L[k].hs
      have hbt := L[k].hb
      have hen := en_bd L k
      have HC1 : Hid (ck1 its inn L k = if refC its L[k] inn ≠ 0 then refC its L[k] inn else if 64 < en L (k + 1) then 100925506 else 0) := by
        show _ = _
        unfold ck1
        rw [hgd]
      have hw1 : wrap64 (en L k + L[k].bt) = en L (k + 1) := by
        show _ = wrap64 _
        rw [hgd]
      have HN : Hid (ck1 its inn L k = 0 → ∀ j, j < k + 1 → ck1 its inn L j = 0) := fun hz j hj => by
        rcases Nat.lt_or_ge j k with h | h
        · exact HJ.out j h
        · have : j = k := by omega
          subst this; exact hz
      have HB : Hid (ck1 its inn L k ≠ 0 → CC = ck1 its inn L k) := fun hx => HA.out k hkl HJ.out hx
      have hF := fun m => QFind_any ((HR.out wr B1).below (below_drawn13 (Below.refl _ _) m)) (by simpa using hl) L[k].ix L[k].sb
      have hRw := HR.out wr B1
      have d0 := hRw.c.1
      have HCW := hidOf2 (fun (y : World) (hy : Below wr.heap.size wr y) => (show y.cell? ⟨b, off + k * 3 + 2, none⟩ = some (.int .i64 L[k].bt) from (hy.cell (p := ⟨b, off + k * 3 + 2, none⟩) hb).trans c2))
      have HB1 := hidOf2 B1
      clear hcs hRg HJ he2 hgd B1
      generalize ck1 its inn L k = C1 at *
      obtain ⟨en1, hen1⟩ : ∃ z, en L (k + 1) = z := ⟨_, rfl⟩
      have HE1 := hidOf2 hen1
      rw [hen1] at hw1 HC1
      clear hen1
      generalize hs : L[k] = s at *
      clear hs
      cases hf : fnd its s.ix s.sb with
      | none =>
        obtain ⟨f1, f2⟩ := fi_none hf
        rw [f1, f2] at hF
        have hrc : refC its s inn = noc its s.ix := by unfold refC; rw [hf]; unfold wc; rw [hf]
        have hne := noc_ne its s.ix
        have e3 : C1 = noc its s.ix := by rw [HC1.out, hrc, if_pos hne]
        have HR2 : Hid (CC = noc its s.ix) := (HB.out (by rw [e3]; exact hne)).trans e3
        have hnl := noc_lt its s.ix
        clear f1 f2 hf hrc e3 HC1 HN HB HCW
        generalize noc its s.ix = nc at *
        have hd1 : ((nc : Int) != 0) = true := by simp; omega
        go_upto_region 5 with fail
        go_quiet ((go_at_call 23; exact Calls.quiet_of_same (hF _)))
        go_wp2
        go_ret
        exact ⟨ret_int (by rw [HR2.out]), below_drawn13 HB1.out _⟩
      | some i =>
        obtain ⟨kk, hkk, hki, f1, f2⟩ := fi_some hf
        rw [f1, f2] at hF
        have hrc : refC its s inn = if i.e.mp = false ∨ s.bt ≠ (siz i.e.df.t : Int) * 8 ∨ opn i.e.ac inn = false then 100925505 else 0 := by unfold refC; rw [hf]
        obtain ⟨RC, hRC⟩ : ∃ r, refC its s inn = r := ⟨_, rfl⟩
        rw [hRC] at HC1
        have HRC := hidOf2 (hrc.symm.trans hRC)
        clear f1 f2 hf hrc hRC
        go_upto_region 5 with fail
        go_quiet ((go_at_call 23; exact Calls.quiet_of_same (hF _)))
        have bW : Below wr.heap.size wr (wr.drewN nq) := below_drawn13 (Below.refl _ _) _
        have HB2 := hidOf2 (HB1.out.trans (bW.mono HB1.out.size))
        have hRw2 := hRw.below bW
        generalize wr.drewN nq = W1 at *
        have d0 := hRw2.c.1
        obtain ⟨aL', cL', hvL, _, hcL⟩ := hRw2.rowL.wide
        injection hvL with g1 g4 g3
        clear g4 g3
        obtain ⟨bL, oL, g2, hbL, hRL⟩ := hcL kk (by simpa using hkk)
        rw [g2] at g1
        subst g1
        rw [List.getElem_map, hki] at hRL
        have hkk2 : kk < (its.map Im.e).length := by simpa using hkk
        obtain ⟨q, hq⟩ : ∃ q, W1.heap.size = q := ⟨_, rfl⟩
        have hh : (W1.alloc (.cells #[.int .u16 0, .int .u8 0, .int .i64 0, .bool false, .bool false, .int .i64 0, .int .u64 0, .string ⟨#[]⟩, .int .i64 0, .int .u64 0, .string ⟨#[]⟩, .int .i64 0, .int .u64 0, .string ⟨#[]⟩] 59)).heap[q]? = some (.cells #[.int .u16 0, .int .u8 0, .int .i64 0, .bool false, .bool false, .int .i64 0, .int .u64 0, .string ⟨#[]⟩, .int .i64 0, .int .u64 0, .string ⟨#[]⟩, .int .i64 0, .int .u64 0, .string ⟨#[]⟩] 59 (0, 0)) := by rw [← hq]; exact heap_alloc_new W1 _
        have HEb := hidOf2 (Eb.row hh i.e)
        have bA : Below W1.heap.size W1 (W1.alloc (.cells #[.int .u16 0, .int .u8 0, .int .i64 0, .bool false, .bool false, .int .i64 0, .int .u64 0, .string ⟨#[]⟩, .int .i64 0, .int .u64 0, .string ⟨#[]⟩, .int .i64 0, .int .u64 0, .string ⟨#[]⟩] 59)) := (Below.refl _ _).alloc (Nat.le_refl _) _
        have HbB := hidOf2 (below_row bA (by omega) bA.size (q := q) i.e.arr)
        have HkL : Hid (kk < its.length) := hkk
        obtain ⟨nE, hnE⟩ : ∃ n, (its.map Im.e).length = n := ⟨_, rfl⟩
        rw [hnE] at d0 hkk2
        clear hkk hki hcL g2 bA hRw hRw2 hF hnE
        go_upto_region 9 with (first | (refine ldE hRL rfl _ rfl rfl ?_) | (refine sdE hh rfl i.e rfl _ _ rfl rfl rfl ?_))
        try simp only [hq]
        generalize ((W1.alloc (.cells #[.int .u16 0, .int .u8 0, .int .i64 0, .bool false, .bool false, .int .i64 0, .int .u64 0, .string ⟨#[]⟩, .int .i64 0, .int .u64 0, .string ⟨#[]⟩, .int .i64 0, .int .u64 0, .string ⟨#[]⟩] 59)).setRow q i.e.arr) = W2 at *
        have b2 := HB2.out.trans (HbB.out.mono HB2.out.size)
        have c2' := HCW.out W2 (bW.trans (HbB.out.mono bW.size))
        have HBX := hidOf2 b2
        obtain ⟨_, _, k2, k3, k4, k11⟩ := HEb.out.c
        have hsz : siz i.e.df.t ≤ 8 := siz_le _
        have hS7 := r7Size_any i.e.df.t
        clear HEb HbB HB2 b2 bW hh hRL HCW d0 c0 c1 c2 HB1
        generalize i.e.df.t = ty at *
        generalize siz ty = sz at *
        generalize i.e.ac = ac at *
        generalize i.e.mp = mp at *
        cases inn
        · by_cases ha : ac = 1
          · have da : (ac != 1) = false := by simp [ha]
            have ho : opn ac false = false := by unfold opn; simp [ha]
            clear ha
            cases mp
            · skip
              have HR2 : Hid (CC = 100925505) := by
                have e8 : RC = 100925505 := by rw [← HRC.out, if_pos (.inl rfl)]
                have e9 : C1 = 100925505 := by rw [HC1.out, e8]; rfl
                exact (HB.out (by rw [e9]; decide)).trans e9
              clear HC1 HB HN
              go_upto_region 12 with fail
              go_quiet ((go_at_call 24; exact Calls.quiet_of_same (hS7 _)))
              go_wp2
              go_ret
              exact ⟨ret_int (by rw [HR2.out]; rfl), below_drawn13 HBX.out _⟩
            · skip
              have HR2 : Hid (CC = 100925505) := by
                have e8 : RC = 100925505 := by rw [← HRC.out, if_pos (.inr (.inr ho))]
                have e9 : C1 = 100925505 := by rw [HC1.out, e8]; rfl
                exact (HB.out (by rw [e9]; decide)).trans e9
              clear HC1 HB HN
              go_upto_region 12 with fail
              go_quiet ((go_at_call 24; exact Calls.quiet_of_same (hS7 _)))
              go_wp2
              go_ret
              exact ⟨ret_int (by rw [HR2.out]; rfl), below_drawn13 HBX.out _⟩
          · have da : (ac != 1) = true := by simp [ha]
            have ho : opn ac false = true := by unfold opn; simp [ha]
            clear ha
            cases mp
            · skip
              have HR2 : Hid (CC = 100925505) := by
                have e8 : RC = 100925505 := by rw [← HRC.out, if_pos (.inl rfl)]
                have e9 : C1 = 100925505 := by rw [HC1.out, e8]; rfl
                exact (HB.out (by rw [e9]; decide)).trans e9
              clear HC1 HB HN
              go_upto_region 12 with fail
              go_quiet ((go_at_call 24; exact Calls.quiet_of_same (hS7 _)))
              go_wp2
              go_ret
              exact ⟨ret_int (by rw [HR2.out]; rfl), below_drawn13 HBX.out _⟩
            · by_cases hb : s.bt = (sz : Int) * 8
              · have db : (s.bt != 8 * (sz : Int)) = false := by simp; omega
                have HC2 : Hid (C1 = if 64 < en1 then 100925506 else 0) := by
                  show _ = _
                  have e8 : RC = 0 := by rw [← HRC.out, if_neg (show ¬ (true = false ∨ s.bt ≠ (sz : Int) * 8 ∨ _ = false) from fun h => by
                    rcases h with h | h | h
                    · cases h
                    · exact h hb
                    · rw [ho] at h; cases h)]
                  rw [HC1.out, e8]
                  simp
                clear hb HC1
                by_cases h64 : 64 < en1
                · have d64 : decide ((64 : Int) < en1) = true := by simp; omega
                  have HR2 : Hid (CC = 100925506) := by
                    have e9 : C1 = 100925506 := by rw [HC2.out, if_pos h64]
                    exact (HB.out (by rw [e9]; decide)).trans e9
                  clear HC2 HB HN
                  go_upto_region 12 with fail
                  go_quiet ((go_at_call 24; exact Calls.quiet_of_same (hS7 _)))
                  go_wp2
                  go_ret
                  exact ⟨ret_int (by rw [HR2.out]; rfl), below_drawn13 HBX.out _⟩
                · have d64 : decide ((64 : Int) < en1) = false := by simp; omega
                  have HN2 := hidOf2 (HN.out (by rw [HC2.out, if_neg h64]))
                  clear HC2 HB HN
                  go_upto_region 12 with fail
                  go_quiet ((go_at_call 24; exact Calls.quiet_of_same (hS7 _)))
                  go_wp2
                  go_roundw
                  case rel => exact ⟨k + 1, by omega, by go_num, by rw [HE1.out, hw1], HN2.out, below_drawn13 HBX.out _⟩
                  case measure => simp [intOf]; omega
              · have db : (s.bt != 8 * (sz : Int)) = true := by simp; omega

                have HR2 : Hid (CC = 100925505) := by
                  have e8 : RC = 100925505 := by rw [← HRC.out, if_pos (.inr (.inl hb))]
                  have e9 : C1 = 100925505 := by rw [HC1.out, e8]; rfl
                  exact (HB.out (by rw [e9]; decide)).trans e9
                clear HC1 HB HN
                go_upto_region 12 with fail
                go_quiet ((go_at_call 24; exact Calls.quiet_of_same (hS7 _)))
                go_wp2
                go_ret
                exact ⟨ret_int (by rw [HR2.out]; rfl), below_drawn13 HBX.out _⟩
        · by_cases ha : ac = 1
          · have da : (ac == 1) = true := by simp [ha]
            have ho : opn ac true = true := by unfold opn; simp [ha]
            clear ha
            cases mp
            · skip
              have HR2 : Hid (CC = 100925505) := by
                have e8 : RC = 100925505 := by rw [← HRC.out, if_pos (.inl rfl)]
                have e9 : C1 = 100925505 := by rw [HC1.out, e8]; rfl
                exact (HB.out (by rw [e9]; decide)).trans e9
              clear HC1 HB HN
              go_upto_region 12 with fail
              go_quiet ((go_at_call 24; exact Calls.quiet_of_same (hS7 _)))
              go_wp2
              go_ret
              exact ⟨ret_int (by rw [HR2.out]; rfl), below_drawn13 HBX.out _⟩
            · by_cases hb : s.bt = (sz : Int) * 8
              · have db : (s.bt != 8 * (sz : Int)) = false := by simp; omega
                have HC2 : Hid (C1 = if 64 < en1 then 100925506 else 0) := by
                  show _ = _
                  have e8 : RC = 0 := by rw [← HRC.out, if_neg (show ¬ (true = false ∨ s.bt ≠ (sz : Int) * 8 ∨ _ = false) from fun h => by
                    rcases h with h | h | h
                    · cases h
                    · exact h hb
                    · rw [ho] at h; cases h)]
                  rw [HC1.out, e8]
                  simp
                clear hb HC1
                by_cases h64 : 64 < en1
                · have d64 : decide ((64 : Int) < en1) = true := by simp; omega
                  have HR2 : Hid (CC = 100925506) := by
                    have e9 : C1 = 100925506 := by rw [HC2.out, if_pos h64]
                    exact (HB.out (by rw [e9]; decide)).trans e9
                  clear HC2 HB HN
                  go_upto_region 12 with fail
                  go_quiet ((go_at_call 24; exact Calls.quiet_of_same (hS7 _)))
                  go_wp2
                  go_ret
                  exact ⟨ret_int (by rw [HR2.out]; rfl), below_drawn13 HBX.out _⟩
                · have d64 : decide ((64 : Int) < en1) = false := by simp; omega
                  have HN2 := hidOf2 (HN.out (by rw [HC2.out, if_neg h64]))
                  clear HC2 HB HN
                  go_upto_region 12 with fail
                  go_quiet ((go_at_call 24; exact Calls.quiet_of_same (hS7 _)))
                  go_wp2
                  go_roundw
                  case rel => exact ⟨k + 1, by omega, by go_num, by rw [HE1.out, hw1], HN2.out, below_drawn13 HBX.out _⟩
                  case measure => simp [intOf]; omega
              · have db : (s.bt != 8 * (sz : Int)) = true := by simp; omega

                have HR2 : Hid (CC = 100925505) := by
                  have e8 : RC = 100925505 := by rw [← HRC.out, if_pos (.inr (.inl hb))]
                  have e9 : C1 = 100925505 := by rw [HC1.out, e8]; rfl
                  exact (HB.out (by rw [e9]; decide)).trans e9
                clear HC1 HB HN
                go_upto_region 12 with fail
                go_quiet ((go_at_call 24; exact Calls.quiet_of_same (hS7 _)))
                go_wp2
                go_ret
                exact ⟨ret_int (by rw [HR2.out]; rfl), below_drawn13 HBX.out _⟩
          · have da : (ac == 1) = false := by simp [ha]
            by_cases h2 : ac = 2
            · have db2 : (ac == 2) = true := by simp [h2]
              have ho : opn ac true = true := by unfold opn; simp [h2]
              clear ha h2
              cases mp
              · skip
                have HR2 : Hid (CC = 100925505) := by
                  have e8 : RC = 100925505 := by rw [← HRC.out, if_pos (.inl rfl)]
                  have e9 : C1 = 100925505 := by rw [HC1.out, e8]; rfl
                  exact (HB.out (by rw [e9]; decide)).trans e9
                clear HC1 HB HN
                go_upto_region 12 with fail
                go_quiet ((go_at_call 24; exact Calls.quiet_of_same (hS7 _)))
                go_wp2
                go_ret
                exact ⟨ret_int (by rw [HR2.out]; rfl), below_drawn13 HBX.out _⟩
              · by_cases hb : s.bt = (sz : Int) * 8
                · have db : (s.bt != 8 * (sz : Int)) = false := by simp; omega
                  have HC2 : Hid (C1 = if 64 < en1 then 100925506 else 0) := by
                    show _ = _
                    have e8 : RC = 0 := by rw [← HRC.out, if_neg (show ¬ (true = false ∨ s.bt ≠ (sz : Int) * 8 ∨ _ = false) from fun h => by
                      rcases h with h | h | h
                      · cases h
                      · exact h hb
                      · rw [ho] at h; cases h)]
                    rw [HC1.out, e8]
                    simp
                  clear hb HC1
                  by_cases h64 : 64 < en1
                  · have d64 : decide ((64 : Int) < en1) = true := by simp; omega
                    have HR2 : Hid (CC = 100925506) := by
                      have e9 : C1 = 100925506 := by rw [HC2.out, if_pos h64]
                      exact (HB.out (by rw [e9]; decide)).trans e9
                    clear HC2 HB HN
                    go_upto_region 12 with fail
                    go_quiet ((go_at_call 24; exact Calls.quiet_of_same (hS7 _)))
                    go_wp2
                    go_ret
                    exact ⟨ret_int (by rw [HR2.out]; rfl), below_drawn13 HBX.out _⟩
                  · have d64 : decide ((64 : Int) < en1) = false := by simp; omega
                    have HN2 := hidOf2 (HN.out (by rw [HC2.out, if_neg h64]))
                    clear HC2 HB HN
                    go_upto_region 12 with fail
                    go_quiet ((go_at_call 24; exact Calls.quiet_of_same (hS7 _)))
                    go_wp2
                    go_roundw
                    case rel => exact ⟨k + 1, by omega, by go_num, by rw [HE1.out, hw1], HN2.out, below_drawn13 HBX.out _⟩
                    case measure => simp [intOf]; omega
                · have db : (s.bt != 8 * (sz : Int)) = true := by simp; omega

                  have HR2 : Hid (CC = 100925505) := by
                    have e8 : RC = 100925505 := by rw [← HRC.out, if_pos (.inr (.inl hb))]
                    have e9 : C1 = 100925505 := by rw [HC1.out, e8]; rfl
                    exact (HB.out (by rw [e9]; decide)).trans e9
                  clear HC1 HB HN
                  go_upto_region 12 with fail
                  go_quiet ((go_at_call 24; exact Calls.quiet_of_same (hS7 _)))
                  go_wp2
                  go_ret
                  exact ⟨ret_int (by rw [HR2.out]; rfl), below_drawn13 HBX.out _⟩
            · have db2 : (ac == 2) = false := by simp [h2]
              have ho : opn ac true = false := by unfold opn; simp [ha, h2]
              clear ha h2
              cases mp
              · skip
                have HR2 : Hid (CC = 100925505) := by
                  have e8 : RC = 100925505 := by rw [← HRC.out, if_pos (.inl rfl)]
                  have e9 : C1 = 100925505 := by rw [HC1.out, e8]; rfl
                  exact (HB.out (by rw [e9]; decide)).trans e9
                clear HC1 HB HN
                go_upto_region 12 with fail
                go_quiet ((go_at_call 24; exact Calls.quiet_of_same (hS7 _)))
                go_wp2
                go_ret
                exact ⟨ret_int (by rw [HR2.out]; rfl), below_drawn13 HBX.out _⟩
              · skip
                have HR2 : Hid (CC = 100925505) := by
                  have e8 : RC = 100925505 := by rw [← HRC.out, if_pos (.inr (.inr ho))]
                  have e9 : C1 = 100925505 := by rw [HC1.out, e8]; rfl
                  exact (HB.out (by rw [e9]; decide)).trans e9
                clear HC1 HB HN
                go_upto_region 12 with fail
                go_quiet ((go_at_call 24; exact Calls.quiet_of_same (hS7 _)))
                go_wp2
                go_ret
                exact ⟨ret_int (by rw [HR2.out]; rfl), below_drawn13 HBX.out _⟩
    · have e0 : CC = 0 := HE.out (fun j hj => HJ.out j (by omega))
      subst e0
      have hd : decide ((k : Int) < (L.length : Int)) = false := by simp; omega
      go_wp2
      go_ret
      exact ⟨rfl, B1⟩
end Go.Proofs.Ythalhidebkhclaa
namespace Go.Proofs.Ythalhidebkhclaa
open Go.RowKit Go.Proofs.Ty Go.Sort Go.Lib
set_option linter.unusedVariables false
set_option maxRecDepth 1000000
set_option linter.unusedSimpArgs false
theorem kp_other {D R : Nat} {its : List Im} {x y : World} (hd : Dct D R its x) (hK : Kp (its.map Im.b) x y) {q T : Nat} {A : Array Value} {fr : Nat × Nat} (hq : x.heap[q]? = some (.cells A T fr)) (ht : T ≠ 76) : y.heap[q]? = some (.cells A T fr) :=
  (hK.block q (Array.getElem?_eq_some_iff.1 hq).1 (fun hm => by
    obtain ⟨i, hi, e⟩ := List.mem_map.1 hm
    have h1 := hd.items i hi
    rw [show i.b = q from e] at h1
    have h2 : x.heap[q]? = some (.cells (imC i.e i.v).toArray 76 (0, 0)) := h1
    rw [hq] at h2
    simp at h2
    exact ht h2.2.1)).trans hq
theorem kp_dct {D R D2 R2 : Nat} {its its2 : List Im} {x y : World} (hd : Dct D R its x) (h2 : Dct D2 R2 its2 x) (hK : Kp (its.map Im.b) x y) (dis : ∀ b ∈ its2.map Im.b, b ∉ its.map Im.b) : Dct D2 R2 its2 y :=
  ⟨kp_other hd hK h2.head (by decide), kp_other hd hK h2.row (by decide), fun i hi => (hK.block i.b (h2.items i hi).lt (dis i.b (List.mem_map.2 ⟨i, hi, rfl⟩))).trans (h2.items i hi), h2.apart, h2.sorted, h2.len⟩
theorem kp_own {D R : Nat} {its : List Im} {x y : World} {B T c n : Nat} {v : Value} {xs : List Value} (h : x.ownsRow B T c v n xs) (hd : Dct D R its x) (hK : Kp (its.map Im.b) x y) (ht : T ≠ 76) : y.ownsRow B T c v n xs := by
  refine ⟨h.1, h.2.imp id ?_⟩
  rintro ⟨g, cap, cur, e1, e2, e3, e4⟩
  exact ⟨g, cap, cur, e1, e2, kp_other hd hK e3 ht, e4⟩
/-- A block of another type than the row's. -/
theorem row_other {x y : World} {r : Option Nat} (G : x.grownBy y r) {U : Nat} (hr : ∀ b, r = some b → ∃ cur, x.heap[b]? = some (.cells cur U (0, 0))) {q T : Nat} {A : Array Value} {fr : Nat × Nat} (hq : x.heap[q]? = some (.cells A T fr)) (ht : T ≠ U) : y.heap[q]? = some (.cells A T fr) :=
  (G.block q (Array.getElem?_eq_some_iff.1 hq).1 (fun e => by
    obtain ⟨cur, h1⟩ := hr q e.symm
    rw [hq] at h1
    simp at h1
    exact ht h1.2.1)).trans hq
theorem row_dct {x y : World} {r : Option Nat} (G : x.grownBy y r) {U : Nat} (hr : ∀ b, r = some b → ∃ cur, x.heap[b]? = some (.cells cur U (0, 0))) (h1 : U ≠ 84) (h2 : U ≠ 72) (h3 : U ≠ 76) {D R : Nat} {its : List Im} (h : Dct D R its x) : Dct D R its y :=
  ⟨row_other G hr h.head h1.symm, row_other G hr h.row h2.symm, fun i hi => row_other G hr (show x.heap[i.b]? = _ from h.items i hi) h3.symm, h.apart, h.sorted, h.len⟩
/-- Two dictionaries. -/
structure Se (w : World) (X D R E D2 R2 : Nat) (its its2 : List Im) (x : World) : Prop where
  d1 : Dct D R its x
  d2 : Dct D2 R2 its2 x
  pair : x.heap[X]? = some (.cells #[.pointer (some ⟨D, 0, none⟩), .pointer (some ⟨E, 0, none⟩)] 34 (0, 0))
  below : Below w.heap.size w x
  b1 : ∀ b ∈ its.map Im.b, w.heap.size ≤ b
  b2 : ∀ b ∈ its2.map Im.b, w.heap.size ≤ b
  dis : ∀ b ∈ its.map Im.b, b ∉ its2.map Im.b
  tw : Tw its its2
section
variable {w : World} {X D R E D2 R2 : Nat} {its its2 : List Im} {x y : World}
theorem Se.next (h : Se w X D R E D2 R2 its its2 x) (hb : Below x.heap.size x y) : Se w X D R E D2 R2 its its2 y :=
  ⟨h.d1.below hb, h.d2.below hb, (hb.block X (Array.getElem?_eq_some_iff.1 h.pair).1).trans h.pair, h.below.trans (hb.mono h.below.size), h.b1, h.b2, h.dis, h.tw⟩
theorem Se.cX (h : Se w X D R E D2 R2 its its2 x) : x.cell? ⟨X, 0, none⟩ = some (.pointer (some ⟨D, 0, none⟩)) := Lib.cell_of_heap h.pair 0
theorem Se.row8 (h : Se w X D R E D2 R2 its its2 x) {r : Option Nat} (G : x.grownBy y r) (hr : ∀ b, r = some b → w.heap.size ≤ b ∧ ∃ cur, x.heap[b]? = some (.cells cur 5 (0, 0))) : Se w X D R E D2 R2 its its2 y :=
  have hr2 : ∀ b, r = some b → ∃ cur, x.heap[b]? = some (.cells cur 5 (0, 0)) := fun b hb => (hr b hb).2
  ⟨row_dct G hr2 (by decide) (by decide) (by decide) h.d1, row_dct G hr2 (by decide) (by decide) (by decide) h.d2, row_other G hr2 h.pair (by decide), h.below.grown G h.below.size (fun j hj => (hr j hj).1), h.b1, h.b2, h.dis, h.tw⟩
/-- Both are written. -/
theorem Se.both {z : World} (h : Se w X D R E D2 R2 its its2 x) (ix sb : Nat) (l : List UInt8) (hd : Dct D R (wrt its ix sb l) y) (hK : Kp (its.map Im.b) x y) {y' : World} (hy : Dct D2 R2 its2 y') (hd1 : Dct D R (wrt its ix sb l) y') (hp : y'.heap[X]? = some (.cells #[.pointer (some ⟨D, 0, none⟩), .pointer (some ⟨E, 0, none⟩)] 34 (0, 0))) (hB : Below w.heap.size w y')
    (hd2 : Dct D2 R2 (wrt its2 ix sb l) z) (hK2 : Kp (its2.map Im.b) y' z) : Se w X D R E D2 R2 (wrt its ix sb l) (wrt its2 ix sb l) z := by
  have a1 := (((⟨rfl, rfl⟩ : Al (its.map Im.e) (its.map Im.b) its)).wrt ix sb l).b
  have a2 := (((⟨rfl, rfl⟩ : Al (its2.map Im.e) (its2.map Im.b) its2)).wrt ix sb l).b
  refine ⟨kp_dct hy hd1 hK2 (by rw [a1]; exact h.dis), hd2, kp_other hy hK2 hp (by decide), hK2.below hB hB.size h.b2, by rw [a1]; exact h.b1, by rw [a2]; exact h.b2, by rw [a1, a2]; exact h.dis, h.tw.wrt h.d1.apart h.d2.apart h.d1.sorted h.d2.sorted ix sb l⟩
end
theorem acC_one (a : A8) (h : a.bv.oneCell' = true) : ∀ u ∈ acC a, u.oneCell' = true := by
  intro u hu
  simp [acC] at hu
  rcases hu with rfl | rfl | rfl | rfl | rfl | rfl | rfl | rfl <;> first | rfl | exact h
section
variable {w : World} {ops : Array Oper} {rest : List Oper} {p : Oper} {a : Act} {Q : Exit → Act → World → Prop} {b o : Nat}
end
end Go.Proofs.Ythalhidebkhclaa
namespace Go.Proofs.Ythalhidebkhclaa
open Go.RowKit Go.Proofs.Ty Go.Sort Go.Lib
set_option linter.unusedVariables false
set_option maxRecDepth 1000000
set_option linter.unusedSimpArgs false
theorem insP_perm (L : List En) (x : En) : (insP L x).Perm (L ++ [x]) := by
  induction L with
  | nil => exact List.Perm.refl _
  | cons y r ih =>
    rw [insP]
    split
    · exact ih.cons y
    · exact (List.perm_append_comm (l₁ := [x]) (l₂ := y :: r))
theorem insL_perm (acc l : List En) : (insL acc l).Perm (acc ++ l.map En.plain) := by
  induction l generalizing acc with
  | nil => simp [insL]
  | cons e r ih =>
    rw [insL]
    refine (ih _).trans ?_
    rw [List.map_cons]
    have := (insP_perm acc e.plain).append_right (r.map En.plain)
    simpa using this
theorem insP_sorted {L : List En} (h : L.Pairwise (fun a b => a.pl < b.pl)) {x : En} (hx : ∀ y ∈ L, y.pl ≠ x.pl) : (insP L x).Pairwise (fun a b => a.pl < b.pl) := by
  induction L with
  | nil => simp [insP]
  | cons y r ih =>
    obtain ⟨h1, h2⟩ := List.pairwise_cons.1 h
    rw [insP]
    split
    · rename_i hlt
      refine List.pairwise_cons.2 ⟨fun z hz => ?_, ih h2 (fun z hz => hx z (List.mem_cons_of_mem _ hz))⟩
      rcases List.mem_append.1 ((insP_perm r x).mem_iff.1 hz) with h3 | h3
      · exact h1 z h3
      · obtain rfl := List.mem_singleton.1 h3; exact hlt
    · rename_i hge
      have := hx y List.mem_cons_self
      refine List.pairwise_cons.2 ⟨fun z hz => ?_, h⟩
      rcases List.mem_cons.1 hz with rfl | h3
      · omega
      · have := h1 z h3; omega
theorem plain_pl (e : En) : e.plain.pl = e.pl := rfl
theorem insL_sorted {acc l : List En} (h : acc.Pairwise (fun a b => a.pl < b.pl)) (hn : ((acc ++ l).map En.pl).Nodup) : (insL acc l).Pairwise (fun a b => a.pl < b.pl) := by
  induction l generalizing acc with
  | nil => exact h
  | cons e r ih =>
    rw [insL]
    refine ih (insP_sorted h (fun y hy => ?_)) ?_
    · rw [List.map_append, List.nodup_append] at hn
      have := hn.2.2 y.pl (List.mem_map.2 ⟨y, hy, rfl⟩) e.pl (List.mem_map.2 ⟨e, List.mem_cons_self, rfl⟩)
      rw [plain_pl]; exact this
    · have p1 : ((insP acc e.plain ++ r).map En.pl).Perm ((acc ++ e :: r).map En.pl) := by
        have := ((insP_perm acc e.plain).append_right r).map En.pl
        refine this.trans ?_
        simp [plain_pl]
      exact p1.nodup_iff.2 hn
/-- Both dictionaries have the same entries in the same order, at first. -/
theorem ins_its {its : List Im} {l : List En} (hs : its.Pairwise (fun a b => a.e.pl < b.e.pl)) (hp : (its.map Im.e).Perm (l.map En.plain)) (hn : (l.map En.pl).Nodup) : insL [] l = its.map Im.e :=
  sorted_eq (insL_sorted (by simp) (by simpa using hn)) (List.pairwise_map.2 hs) ((insL_perm [] l).trans hp.symm)
theorem ok_its {its : List Im} {l : List En} (hc : chkL l = 0) (hp : (its.map Im.e).Perm (l.map En.plain)) (hv : ∀ i ∈ its, i.v = i.e.df) : ∀ i ∈ its, Ok i := by
  intro i hi
  have h1 : i.e ∈ l.map En.plain := hp.mem_iff.1 (List.mem_map.2 ⟨i, hi, rfl⟩)
  obtain ⟨e, he, h2⟩ := List.mem_map.1 h1
  have := ok_new (chkG_all (chkL_ok hc).2.2 e he) i.b
  rw [h2] at this
  have h3 := hv i hi
  obtain ⟨b, e', v⟩ := i
  simp only at h3 this ⊢
  rw [h3]
  exact this
end Go.Proofs.Ythalhidebkhclaa
namespace Go.Proofs.Ythalhidebkhclaa
open Go.RowKit Go.Shelf Go.Proofs.Ty
set_option linter.unusedVariables false
set_option maxRecDepth 1000000
set_option linter.unusedSimpArgs false
theorem rd_kp13 {E D R : Nat} {x y : World} {L : List En} {vL : Value} {V : List Vl} {vV : Value} {its : List Im} (h : Rd E L vL V vV x) (hd : Dct D R its x) (hK : Kp (its.map Im.b) x y) : Rd E L vL V vV y :=
  ⟨kp_other hd hK h.head (by decide), h.rowL.same hK.size (fun b A fr _ h1 => (kp_other hd hK h1 (by decide)).trans h1.symm), h.rowV.same hK.size (fun b A fr _ h1 => (kp_other hd hK h1 (by decide)).trans h1.symm)⟩
/-- What is known of items. -/
structure It (l : List En) (I : List Im) : Prop where
  e : I.map Im.e = insL [] l
  fit : ∀ i ∈ I, Fit i
  ok : ∀ i ∈ I, Ok i
  gd : ∀ i ∈ I, Gd i
theorem gd_its {its : List Im} {l : List En} (hc : chkL l = 0) (hp : (its.map Im.e).Perm (l.map En.plain)) (hv : ∀ i ∈ its, i.v = i.e.df) : ∀ i ∈ its, Gd i := by
  intro i hi
  have h1 : i.e ∈ l.map En.plain := hp.mem_iff.1 (List.mem_map.2 ⟨i, hi, rfl⟩)
  obtain ⟨e, he, h2⟩ := List.mem_map.1 h1
  have := gd_new (chkG_all (chkL_ok hc).2.2 e he) i.b
  rw [h2] at this
  have h3 := hv i hi
  obtain ⟨b, e', v⟩ := i
  simp only at h3 this ⊢
  rw [h3]
  exact this
theorem it_bg {w x : World} {X D R E : Nat} {its : List Im} {l : List En} {vL vV : Value} (h : Bg w X D R E its l vL vV x) (hc : chkL l = 0) : It l its :=
  ⟨(ins_its h.dct.sorted h.perm (chkL_ok hc).2.1).symm, fit_bg h hc, ok_its hc h.perm h.vals, gd_its hc h.perm h.vals⟩
theorem It.wrN {l : List En} {I : List Im} (h : It l I) (hd : (I.map Im.b).Nodup) (L : List Sl) (bs : List UInt8) (k : Nat) : It l (wrN I L bs k) :=
  ⟨(wrN_e L bs k).trans h.e, fit_wrN hd h.fit L bs k, ok_wrN hd h.ok L bs k, gd_wrN hd h.gd L bs k⟩
/-- Both pairs in one world. -/
structure Bb (w : World) (l : List En) (X D R E Y F S G : Nat) (I J : List Im) (z : World) : Prop where
  px : z.heap[X]? = some (.cells #[.pointer (some ⟨D, 0, none⟩), .pointer (some ⟨E, 0, none⟩)] 34 (0, 0))
  py : z.heap[Y]? = some (.cells #[.pointer (some ⟨F, 0, none⟩), .pointer (some ⟨G, 0, none⟩)] 34 (0, 0))
  dx : Dct D R I z
  dy : Dct F S J z
  rd : ∃ vL V vV, Rd E (insL [] l) vL V vV z
  below : Below w.heap.size w z
  bx : ∀ b ∈ I.map Im.b, w.heap.size ≤ b
  bY : ∀ b ∈ J.map Im.b, w.heap.size ≤ b
  dis : ∀ b ∈ I.map Im.b, b ∉ J.map Im.b
section
variable {w : World} {l : List En} {X D R E Y F S G : Nat} {I J : List Im} {z y : World}
theorem Bb.next (h : Bb w l X D R E Y F S G I J z) (hb : Below z.heap.size z y) : Bb w l X D R E Y F S G I J y :=
  ⟨(hb.block X (Array.getElem?_eq_some_iff.1 h.px).1).trans h.px, (hb.block Y (Array.getElem?_eq_some_iff.1 h.py).1).trans h.py, h.dx.below hb, h.dy.below hb, by obtain ⟨a, b, c, hr⟩ := h.rd; exact ⟨a, b, c, hr.below hb⟩, h.below.trans (hb.mono h.below.size), h.bx, h.bY, h.dis⟩
theorem Bb.unx {I' : List Im} (h : Bb w l X D R E Y F S G I J z) (hd : Dct D R I' y) (hK : Kp (I.map Im.b) z y) (hb : I'.map Im.b = I.map Im.b) : Bb w l X D R E Y F S G I' J y :=
  ⟨kp_other h.dx hK h.px (by decide), kp_other h.dx hK h.py (by decide), hd, kp_dct h.dx h.dy hK (fun b h1 h2 => h.dis b h2 h1), by obtain ⟨a, b, c, hr⟩ := h.rd; exact ⟨a, b, c, rd_kp13 hr h.dx hK⟩, hK.below h.below h.below.size h.bx, by rw [hb]; exact h.bx, h.bY, by rw [hb]; exact h.dis⟩
theorem Bb.uny {J' : List Im} (h : Bb w l X D R E Y F S G I J z) (hd : Dct F S J' y) (hK : Kp (J.map Im.b) z y) (hb : J'.map Im.b = J.map Im.b) : Bb w l X D R E Y F S G I J' y :=
  ⟨kp_other h.dy hK h.px (by decide), kp_other h.dy hK h.py (by decide), kp_dct h.dy h.dx hK h.dis, hd, by obtain ⟨a, b, c, hr⟩ := h.rd; exact ⟨a, b, c, rd_kp13 hr h.dy hK⟩, hK.below h.below h.below.size h.bY, h.bx, by rw [hb]; exact h.bY, by rw [hb]; exact h.dis⟩
theorem Bb.cX (h : Bb w l X D R E Y F S G I J z) : z.cell? ⟨X, 0, none⟩ = some (.pointer (some ⟨D, 0, none⟩)) ∧ z.cell? ⟨X, 1, none⟩ = some (.pointer (some ⟨E, 0, none⟩)) := ⟨Lib.cell_of_heap h.px 0, Lib.cell_of_heap h.px 1⟩
theorem Bb.cY (h : Bb w l X D R E Y F S G I J z) : z.cell? ⟨Y, 0, none⟩ = some (.pointer (some ⟨F, 0, none⟩)) := Lib.cell_of_heap h.py 0
theorem Bb.ltx (h : Bb w l X D R E Y F S G I J z) : ∀ b ∈ I.map Im.b, b < z.heap.size := fun b hb => by
  obtain ⟨i, hi, rfl⟩ := List.mem_map.1 hb
  exact (h.dx.items i hi).lt
theorem Bb.lty (h : Bb w l X D R E Y F S G I J z) : ∀ b ∈ J.map Im.b, b < z.heap.size := fun b hb => by
  obtain ⟨i, hi, rfl⟩ := List.mem_map.1 hb
  exact (h.dy.items i hi).lt
end
/-- Whatever Unpack answers. -/
theorem unp13 {D R : Nat} {I : List Im} {w : World} {l : List En} (h : Dct D R I w) (hI : It l I) (v : Value) (L : List Sl) (hWd : Wide 3 slC w v L) (hL : L.length ≤ 8796093022000) (vb : Value) (bs : List UInt8) (hB : Bytes w vb bs) (hC : Cp vb) (hl : bs.length < 9223372036854775808)
    (hap : ∀ b, v.ownBlock = some b → b ∉ I.map Im.b) (hapb : ∀ b, vb.ownBlock = some b → b ∉ I.map Im.b) :
    Calls Try.prog 8 #[.pointer (some ⟨D, 0, none⟩), v, vb] w fun e w' => ∃ (c : Int) (I' : List Im), e = .returned (.int .i64 c) ∧ Dct D R I' w' ∧ Kp (I.map Im.b) w w' ∧ I'.map Im.b = I.map Im.b ∧ It l I' := by
  by_cases hc : ckC I true L = 0
  · by_cases hs : szC L ≤ bs.length
    · by_cases hf : ∀ k, k < L.length → wc I (L.getD k Sl.nul).ix (L.getD k Sl.nul).sb (pcL L bs k) = 0
      · refine (pdUnpack_ok h v L hWd hL vb bs hB hC hl hc (fit_mn hI.fit) hs hf hap hapb).mono ?_
        rintro e w' ⟨rfl, hd, hK⟩
        exact ⟨0, _, rfl, hd, hK, wrN_b I L bs _, hI.wrN h.apart L bs _⟩
      · refine (pdUnpack_form h v L hWd hL vb bs hB hC hl hc (fit_mn hI.fit) hs hf).mono ?_
        rintro e w' ⟨rfl, hb⟩
        exact ⟨8, I, rfl, h.below hb, Kp.of_below hb, rfl, hI⟩
    · refine (pdUnpack_short h v L hWd hL vb bs hB hl hc (by omega)).mono ?_
      rintro e w' ⟨rfl, hb⟩
      exact ⟨3, I, rfl, h.below hb, Kp.of_below hb, rfl, hI⟩
  · refine (pdUnpack_bad h v L hWd hL vb bs hB hc).mono ?_
    rintro e w' ⟨rfl, hb⟩
    exact ⟨1, I, rfl, h.below hb, Kp.of_below hb, rfl, hI⟩
end Go.Proofs.Ythalhidebkhclaa
namespace Go.Proofs.Ythalhidebkhclaa
open Go.RowKit Go.Shelf Go.Proofs.Ty
set_option linter.unusedVariables false
set_option maxRecDepth 1000000
set_option linter.unusedSimpArgs false
theorem enterOwn : ∀ args z, (callFunc 9 args).run Try.prog z = .ok (.enter 9 args) z := fun _ _ => by rfl
theorem enterUn : ∀ args z, (callFunc 8 args).run Try.prog z = .ok (.enter 8 args) z := fun _ _ => by rfl
theorem enterG13 : ∀ args z, (callFunc 12 args).run Try.prog z = .ok (.enter 12 args) z := fun _ _ => by rfl
theorem exec_idxSl {a : Act} {o : Oper} {s i : Operand} {b off n c k : Nat} (ho : o.op = .indexAddr 23 s i) (hs : a.eval s = .slice (some ⟨b, off, none⟩) n c) (hi : a.eval i = .int .i64 (k : Int)) (hk : k < n) (w : World) : (execOp a.eval o).run Try.prog w = .ok (.value (.pointer (some ⟨b, off + k * 3, none⟩))) w := by
  have h1 : (0 : Int) ≤ (k : Int) := by omega
  have h2 : (k : Int) < (n : Int) := by omega
  unfold execOp
  simp only [ho, hs, hi]
  obtain ⟨i0, hi0, hz0⟩ := info_size infoSl
  simp [go_sem, run_underlying Try.underlying23, sizeOf, typeInfo, hi0, hz0, h1, h2, Addr.add_mid]
theorem Bb.own {w : World} {l : List En} {X D R E Y F S G : Nat} {I J : List Im} {z : World} (h : Bb w l X D R E Y F S G I J z) {v : Value} {L : List Sl} (hW : Wide 3 slC w v L) (hL : L.length ≤ 8796093022000) {y : World} (hy : Below z.heap.size z y) :
    Calls Try.prog 9 #[v] y fun e w' => ∃ x, e = .returned x ∧ Wide 3 slC w' x L ∧ Below y.heap.size y w' ∧ (∀ b, x.ownBlock = some b → y.heap.size ≤ b) :=
  own13_any v L (hW.same (Nat.le_trans h.below.size hy.size) (fun b _ hl => (hy.block b (Nat.lt_of_lt_of_le hl h.below.size)).trans (h.below.block b hl))) hL
theorem Bb.lives {w : World} {l : List En} {X D R E Y F S G : Nat} {I J : List Im} {z : World} (h : Bb w l X D R E Y F S G I J z) : Calls Try.prog 7 #[] z fun e w' => e = .returned (.bool true) ∧ Below w.heap.size w w' :=
  (lives13_any z).mono fun _ _ ⟨a, b⟩ => ⟨a, h.below.trans (b.mono h.below.size)⟩
theorem It.len {l : List En} {I : List Im} (h : It l I) (hc : chkL l = 0) : I.length ≤ 1024 := by
  have h1 := congrArg List.length h.e
  rw [List.length_map, insL_len] at h1
  have := (chkL_ok hc).1
  simp at h1
  omega
set_option maxHeartbeats 16000000 in
theorem pbak_walk (v : Value) (l : List En) (vs : Value) (L : List Sl) (vb : Value) (bs : List UInt8) (w : World) (hW : Wide 14 enC w v l) (hn : l.length ≤ 1172812402927) (hWs : Wide 3 slC w vs L) (hL : L.length ≤ 8796093022000) (hB : Bytes w vb bs) (hCb : ∀ ao n cap, vb = .slice ao n cap → n ≤ cap) (hlb0 : bs.length ≤ 140737488351232) :
    Calls Try.prog 3 #[v, vs, vb] w fun e w' => e = .returned (.bool true) ∧ Below w.heap.size w w' := by
  have hB1 := Begins_any v l w hW hn
  obtain ⟨aS, cS, hvs⟩ := hWs.shape
  obtain ⟨aB, cB, hvb, _⟩ : ∃ ao cap, vb = .slice ao bs.length cap ∧ True := by obtain ⟨x, y, h, _⟩ := hB; exact ⟨x, y, h, trivial⟩
  obtain ⟨NB, hNB⟩ : ∃ n, bs.length = n := ⟨_, rfl⟩
  rw [hNB] at hvb
  subst hvs
  subst hvb
  have HWS := hidOf2 hWs
  have HBYw := hidOf2 hB
  have HWE := hidOf2 hW
  have hlenB : ([] : List UInt8).length + bs.length ≤ 140737488355328 := by simp; omega
  have hlb : bs.length < 9223372036854775808 := by omega
  have HLE := hidOf2 hlenB
  clear hW hWs hB hNB
  go_enter Try.func3, Try.ntmps3
  go_wp2_with fail
  refine hB1.mono ?_
  rintro e w2 ⟨B2, hbad, hgood⟩
  clear hB1
  by_cases hc : chkL l = 0
  · obtain ⟨X, D, R, E, its, vL, vV, rfl, N2⟩ := hgood hc
    have HN2 := hidOf2 N2
    have HB2 := hidOf2 B2
    have hB3 := (Begins_any v l w2 (HWE.out.same B2.size (fun b _ hl => B2.block b hl)) hn).mono fun _ _ h => h.2.2 hc
    clear hbad hgood N2 B2
    go_wp2_with fail
    refine hB3.mono ?_
    rintro e w3 ⟨Y, F, S, G, itsY, vL', vV', rfl, N3⟩
    have HIt := hidOf2 (it_bg HN2.out hc)
    have HItY := hidOf2 (it_bg N3 hc)
    have hb23 := N3.below
    have HBb : Hid (Bb w l X D R E Y F S G its itsY w3) := ⟨(hb23.block X (Array.getElem?_eq_some_iff.1 HN2.out.pair).1).trans HN2.out.pair, N3.pair, HN2.out.dct.below hb23, N3.dct, ⟨_, _, _, HN2.out.rd.below hb23⟩, HB2.out.trans (hb23.mono HB2.out.size), fun b hb => by
      obtain ⟨i, hi, rfl⟩ := List.mem_map.1 hb
      exact HN2.out.base i hi, fun b hb => by
      obtain ⟨i, hi, rfl⟩ := List.mem_map.1 hb
      exact Nat.le_trans HB2.out.size (N3.base i hi), fun b hb hm => by
      obtain ⟨i, hi, rfl⟩ := List.mem_map.1 hb
      obtain ⟨j, hj, e⟩ := List.mem_map.1 hm
      have h1 := (HN2.out.dct.items i hi).lt
      have h2 := N3.base j hj
      omega⟩
    have HOwn := hidOf2 (fun (y : World) (hy : Below w3.heap.size w3 y) => own13_any (w := y) (.slice aS L.length cS) L (HWS.out.same (Nat.le_trans HBb.out.below.size hy.size) (fun b _ hl => (hy.block b (Nat.lt_of_lt_of_le hl HBb.out.below.size)).trans (HBb.out.below.block b hl))) hL)
    have HBY := hidOf2 (fun (y : World) (hy : Below w3.heap.size w3 y) => (HBYw.out.below (HBb.out.below.trans (hy.mono HBb.out.below.size))))
    have HCX := hidOf2 (fun (y : World) (hy : Below w3.heap.size w3 y) => (HBb.out.next hy).cX.1)
    clear hB3 N3 HN2 hb23 HB2
    go_upto_region 7 with fail
    go_cut [] (fun wx => ∃ I : List Im, It l I ∧ Bb w l X D R E Y F S G I itsY wx)
    case first =>
      have d0 := below_self w3
      have S0 := HCX.out _ d0
      refine wp_region_held (S := fun y => y.cell? ⟨X, 0, none⟩ = some (.pointer (some ⟨D, 0, none⟩))) (by kernel_rfl) ?_
      change wpAnyH _ _ _ _ _ _ _ _ w3.drew
      refine wpAnyH_take (i := 0) (v := (.pointer (some ⟨X, 0, none⟩))) rfl (by kernel_rfl) (by kernel_rfl) (by kernel_rfl) (fun _ _ _ h => h) (.inl ⟨rfl, fun _ hS => rfl⟩) S0 ?_
      simp only [List.getElem_toArray, List.getElem_cons_succ, List.getElem_cons_zero, Act.put, List.setIfInBounds_toArray, List.set_cons_succ, List.set_cons_zero]
      refine wpAnyH_take (i := 1) (v := (.pointer (some ⟨X, 0, none⟩))) rfl (by kernel_rfl) (by kernel_rfl) (by kernel_rfl) (fun _ _ _ h => h) (.inl ⟨rfl, fun _ hS => by simp [execOp, go_sem, Act.eval]⟩) S0 ?_
      simp only [List.getElem_toArray, List.getElem_cons_succ, List.getElem_cons_zero, Act.put, List.setIfInBounds_toArray, List.set_cons_succ, List.set_cons_zero]
      refine wpAnyH_take (i := 2) (v := (.pointer (some ⟨X, 0, none⟩))) rfl (by kernel_rfl) (by kernel_rfl) (by kernel_rfl) (fun _ _ _ h => h) (.inl ⟨rfl, fun _ hS => by simp [execOp, go_sem, Act.eval]⟩) S0 ?_
      simp only [List.getElem_toArray, List.getElem_cons_succ, List.getElem_cons_zero, Act.put, List.setIfInBounds_toArray, List.set_cons_succ, List.set_cons_zero]
      refine wpAnyH_take (i := 3) (v := (.pointer (some ⟨D, 0, none⟩))) rfl (by kernel_rfl) (by kernel_rfl) (by kernel_rfl) (fun _ _ _ h => h) (.inl ⟨rfl, fun _ hS => exec_load rfl rfl (load_pd _ _ _ _ hS)⟩) S0 ?_
      simp only [List.getElem_toArray, List.getElem_cons_succ, List.getElem_cons_zero, Act.put, List.setIfInBounds_toArray, List.set_cons_succ, List.set_cons_zero]
      refine wpAnyH_take (i := 4) (v := (.slice aS L.length cS)) rfl (by kernel_rfl) (by kernel_rfl) (by kernel_rfl) (fun _ _ _ h => h) (.inl ⟨rfl, fun _ hS => rfl⟩) S0 ?_
      simp only [List.getElem_toArray, List.getElem_cons_succ, List.getElem_cons_zero, Act.put, List.setIfInBounds_toArray, List.set_cons_succ, List.set_cons_zero]
      refine wpAnyH_take (i := 7) (v := (.slice aB NB cB)) rfl (by kernel_rfl) (by kernel_rfl) (by kernel_rfl) (fun _ _ _ h => h) (.inl ⟨rfl, fun _ hS => rfl⟩) S0 ?_
      simp only [List.getElem_toArray, List.getElem_cons_succ, List.getElem_cons_zero, Act.put, List.setIfInBounds_toArray, List.set_cons_succ, List.set_cons_zero]
      refine wpAnyH_all (rs := [5, 6]) (by kernel_rfl) (by simp) ?_
      intro k hk
      simp only [List.mem_cons, List.mem_nil_iff, or_false] at hk
      rcases hk with rfl | rfl
      · refine wpOp_run rfl rfl (wp_call_fn 9 #[.slice aS L.length cS] (by simp [execOp, go_sem, Act.eval, resolve, invoke, enterOwn]) ?_)
        refine (HOwn.out _ d0).mono ?_
        rintro e u1 ⟨x5, rfl, W5, b1, O5⟩
        have d1 := d0.trans (b1.mono d0.size)
        have s1 := HCX.out _ d1
        have M5 : ∀ b, x5.ownBlock = some b → w3.heap.size ≤ b := fun b hb => Nat.le_trans d0.size (O5 b hb)
        refine ⟨s1, ?_⟩
        simp only [List.getElem_toArray, List.getElem_cons_succ, List.getElem_cons_zero, Act.put, List.setIfInBounds_toArray, List.set_cons_succ, List.set_cons_zero]
        refine wpAnyH_all (rs := [6]) (by kernel_rfl) (by simp) ?_
        intro k hk
        simp only [List.mem_cons, List.mem_nil_iff, or_false] at hk
        subst hk
        refine wpOp_run rfl rfl (wp_bs0g Try.underlying24 info5 rfl ?_)
        obtain ⟨q6, hq6⟩ : ∃ q, u1.heap.size = q := ⟨_, rfl⟩
        have r2 := own_empty_e u1 5 1
        have d2 := d1.alloc d1.size (.cells #[] 5)
        have s2 := HCX.out _ d2
        have hq6lt : q6 < (u1.alloc (.cells #[] 5)).heap.size := by rw [size_alloc]; omega
        have hq6g : w3.heap.size ≤ q6 := by rw [← hq6]; exact d1.size
        have kb : Below u1.heap.size u1 (u1.alloc (.cells #[] 5)) := (Below.refl _ _).alloc (Nat.le_refl _) _
        rw [hq6] at r2 ⊢
        generalize u1.alloc (.cells #[] 5) = u2 at *
        refine ⟨s2, ?_⟩
        simp only [List.getElem_toArray, List.getElem_cons_succ, List.getElem_cons_zero, Act.put, List.setIfInBounds_toArray, List.set_cons_succ, List.set_cons_zero]
        refine wpAnyH_all (rs := [8]) (by kernel_rfl) (by simp) ?_
        intro k hk
        simp only [List.mem_cons, List.mem_nil_iff, or_false] at hk
        subst hk
        refine wpOp_run rfl rfl (wp_append_bytes _ _ rfl q6 (.slice (some ⟨q6, 0, none⟩) 0 0) [] rfl r2 (.slice aB NB cB) bs rfl (HBY.out _ d2) hlenB (by omega) ?_)
        intro v8 u8 o8 G8 H8
        rw [List.nil_append] at o8
        have d8 := d2.grown G8 d2.size (fun k e => Nat.le_trans hq6g (own_lt r2 k e))
        have s8 := HCX.out _ d8
        have kz := kb.grown G8 kb.size (fun k e => by have := own_lt r2 k e; omega)
        have W8 := W5.same kz.size (fun b _ hl => kz.block b hl)
        refine ⟨s8, ?_⟩
        simp only [List.getElem_toArray, List.getElem_cons_succ, List.getElem_cons_zero, Act.put, List.setIfInBounds_toArray, List.set_cons_succ, List.set_cons_zero]
        refine wpAnyH_all (rs := [9]) (by kernel_rfl) (by simp) ?_
        intro k hk
        simp only [List.mem_cons, List.mem_nil_iff, or_false] at hk
        subst hk
        refine wpOp_run rfl rfl (wp_call_fn 8 #[.pointer (some ⟨D, 0, none⟩), x5, v8] (by simp [execOp, go_sem, Act.eval, resolve, invoke, enterUn]) ?_)
        refine (unp13 (HBb.out.next d8).dx HIt.out x5 L W8 hL v8 bs (bytes_of_own o8) (own_cp o8) hlb (fun b hb hm => by have := HBb.out.ltx b hm; have := M5 b hb; omega) (fun b hb hm => by have := HBb.out.ltx b hm; have := own_base o8 hb; omega)).mono ?_
        rintro e u9 ⟨cz, I', rfl, D9, K9, hb9, It9⟩
        have B9 := (HBb.out.next d8).unx D9 K9 hb9
        have s9 := B9.cX.1
        refine ⟨s9, ?_⟩
        simp only [List.getElem_toArray, List.getElem_cons_succ, List.getElem_cons_zero, Act.put, List.setIfInBounds_toArray, List.set_cons_succ, List.set_cons_zero]
        refine wpAnyH_done (by kernel_rfl) ?_ _
        go_wp2
        go_meet
        case rel => exact ⟨I', It9, B9⟩
      · refine wpOp_run rfl rfl (wp_bs0g Try.underlying24 info5 rfl ?_)
        obtain ⟨q6, hq6⟩ : ∃ q, w3.drew.heap.size = q := ⟨_, rfl⟩
        have r1 := own_empty_e w3.drew 5 1
        have d1 := d0.alloc d0.size (.cells #[] 5)
        have s1 := HCX.out _ d1
        have hq6lt : q6 < (w3.drew.alloc (.cells #[] 5)).heap.size := by rw [size_alloc]; omega
        have hq6g : w3.heap.size ≤ q6 := by rw [← hq6]; exact d0.size
        rw [hq6] at r1 ⊢
        generalize w3.drew.alloc (.cells #[] 5) = u1 at *
        refine ⟨s1, ?_⟩
        simp only [List.getElem_toArray, List.getElem_cons_succ, List.getElem_cons_zero, Act.put, List.setIfInBounds_toArray, List.set_cons_succ, List.set_cons_zero]
        refine wpAnyH_all (rs := [5]) (by kernel_rfl) (by simp) ?_
        intro k hk
        simp only [List.mem_cons, List.mem_nil_iff, or_false] at hk
        subst hk
        refine wpOp_run rfl rfl (wp_call_fn 9 #[.slice aS L.length cS] (by simp [execOp, go_sem, Act.eval, resolve, invoke, enterOwn]) ?_)
        refine (HOwn.out _ d1).mono ?_
        rintro e u2 ⟨x5, rfl, W5, b2, O5⟩
        have d2 := d1.trans (b2.mono d1.size)
        have s2 := HCX.out _ d2
        have M5 : ∀ b, x5.ownBlock = some b → w3.heap.size ≤ b := fun b hb => Nat.le_trans d1.size (O5 b hb)
        have r2 := own_below5 r1 b2
        have hqz := Nat.lt_of_lt_of_le hq6lt b2.size
        have N5 : ∀ b, x5.ownBlock = some b → b ≠ q6 := fun b hb e => by have := O5 b hb; omega
        refine ⟨s2, ?_⟩
        simp only [List.getElem_toArray, List.getElem_cons_succ, List.getElem_cons_zero, Act.put, List.setIfInBounds_toArray, List.set_cons_succ, List.set_cons_zero]
        refine wpAnyH_all (rs := [8]) (by kernel_rfl) (by simp) ?_
        intro k hk
        simp only [List.mem_cons, List.mem_nil_iff, or_false] at hk
        subst hk
        refine wpOp_run rfl rfl (wp_append_bytes _ _ rfl q6 (.slice (some ⟨q6, 0, none⟩) 0 0) [] rfl r2 (.slice aB NB cB) bs rfl (HBY.out _ d2) hlenB (by omega) ?_)
        intro v8 u8 o8 G8 H8
        rw [List.nil_append] at o8
        have d8 := d2.grown G8 d2.size (fun k e => Nat.le_trans hq6g (own_lt r2 k e))
        have s8 := HCX.out _ d8
        have W8 := W5.same G8.size (fun b hb hl => G8.block b hl (fun e => by have h1 := N5 b hb; have h2 : (Value.slice (some ⟨q6, 0, none⟩) 0 0).ownBlock = some b := e.symm; simp [Value.ownBlock] at h2; omega))
        refine ⟨s8, ?_⟩
        simp only [List.getElem_toArray, List.getElem_cons_succ, List.getElem_cons_zero, Act.put, List.setIfInBounds_toArray, List.set_cons_succ, List.set_cons_zero]
        refine wpAnyH_all (rs := [9]) (by kernel_rfl) (by simp) ?_
        intro k hk
        simp only [List.mem_cons, List.mem_nil_iff, or_false] at hk
        subst hk
        refine wpOp_run rfl rfl (wp_call_fn 8 #[.pointer (some ⟨D, 0, none⟩), x5, v8] (by simp [execOp, go_sem, Act.eval, resolve, invoke, enterUn]) ?_)
        refine (unp13 (HBb.out.next d8).dx HIt.out x5 L W8 hL v8 bs (bytes_of_own o8) (own_cp o8) hlb (fun b hb hm => by have := HBb.out.ltx b hm; have := M5 b hb; omega) (fun b hb hm => by have := HBb.out.ltx b hm; have := own_base o8 hb; omega)).mono ?_
        rintro e u9 ⟨cz, I', rfl, D9, K9, hb9, It9⟩
        have B9 := (HBb.out.next d8).unx D9 K9 hb9
        have s9 := B9.cX.1
        refine ⟨s9, ?_⟩
        simp only [List.getElem_toArray, List.getElem_cons_succ, List.getElem_cons_zero, Act.put, List.setIfInBounds_toArray, List.set_cons_succ, List.set_cons_zero]
        refine wpAnyH_done (by kernel_rfl) ?_ _
        go_wp2
        go_meet
        case rel => exact ⟨I', It9, B9⟩
    case rest =>
    obtain ⟨I, hI, hBb⟩ := hcut
    obtain ⟨w4, hw4⟩ : ∃ x, x = wc := ⟨_, rfl⟩
    subst hw4
    have HI := hidOf2 hI
    have HB4 := hidOf2 hBb
    have c4 := (hBb.next (below_self w4)).cX.1
    clear hI hBb HBb HIt HOwn HBY HCX
    go_upto_region 8 with fail
    by_cases hk : ckC I false L = 0
    · go_cut [10, 11] (fun s10 s11 wx => ∃ g : Nat, s10 = .slice (some ⟨g, 0, none⟩) (szC L) (szC L) ∧ s11 = .int .i64 0 ∧ Bb w l X D R E Y F S G I itsY wx ∧ Bk g (pkB I L L.length) wx ∧ w4.heap.size ≤ g)
      case first =>
        go_region_with (first | (go_at_call 9; refine (HB4.out.own HWS.out hL (by exact below_self w4)).mono ?_; rintro e w5 ⟨x5, rfl, hW5, b5, _⟩; have b5' : Below w4.heap.size w4 w5 := ⟨b5.os, b5.tape, b5.output, b5.size, b5.block⟩; have c5 := (HB4.out.next b5').cX.1) | (go_at_call 10; refine (pdPack_ok (HB4.out.next b5').dx x5 L hW5 hL hk (fit_mn HI.out.fit) (fit_vn HI.out.fit)).mono ?_; rintro e w6 ⟨g, rfl, b6, hg6, K6⟩))
        all_goals
          go_wp2
          go_meet
          case rel => exact ⟨g, rfl, rfl, (HB4.out.next b5').next b6, K6, Nat.le_trans b5'.size hg6⟩
      case rest =>
      obtain ⟨g, rfl, rfl, hB6, hK6, hg6⟩ := hcut
      obtain ⟨w6, hw6⟩ : ∃ x, x = wc := ⟨_, rfl⟩
      subst hw6
      have HB6 := hidOf2 hB6
      have HK6 := hidOf2 hK6
      have c6 := hB6.cX.2
      clear hB6 hK6 c4
      obtain ⟨rL, rV, rW, hRd⟩ := HB6.out.rd
      rw [← HI.out.e] at hRd
      have hCk := r13Check_any hRd (HI.out.len hc) _ L (HWS.out.same HB6.out.below.size (fun b _ hl => HB6.out.below.block b hl)) hL true
      clear hRd
      by_cases hT : ckC I true L = 0
      · rw [hT] at hCk
        have HT := hidOf2 hT
        have HeJ := hidOf2 (HI.out.e.trans HItY.out.e.symm)
        have HTY := hidOf2 (show ckC itsY true L = 0 by rw [← ck_e HeJ.out]; exact hT)
        have HPA := hidOf2 (pk_all (fit_vn HI.out.fit) hk)
        have HBA := hidOf2 (back_all HeJ.out HI.out.ok HI.out.gd (fit_vn HI.out.fit) HB6.out.dy.apart HTY.out)
        have HBS := hidOf2 (back_step HeJ.out HI.out.ok HI.out.gd (fit_vn HI.out.fit) HB6.out.dy.apart HTY.out L.length (Nat.le_refl _))
        have HSL := hidOf2 (show (catK I L L.length).length = szC L by rw [catK_len (fit_vn HI.out.fit) hT L.length (Nat.le_refl _), sz_off (fit_mn HI.out.fit) hT])
        have hs8 : szC L ≤ 8 := by rw [sz_off (fit_mn HI.out.fit) hT]; exact (en_off hT _ (Nat.le_refl _)).2.1
        have HJ2 := hidOf2 (HItY.out.wrN HB6.out.dy.apart L (catK I L L.length) L.length)
        have HKc := hidOf2 (show Bk g (catK I L L.length) w6 by rw [← HPA.out]; exact HK6.out)
        have HgJ := hidOf2 (show ∀ b ∈ itsY.map Im.b, b < g from fun b hb => Nat.lt_of_lt_of_le (HB4.out.lty b hb) hg6)
        have HkF := hidOf2 (show ckC (wrN itsY L (catK I L L.length) L.length) false L = 0 by rw [ck_e ((wrN_e L (catK I L L.length) L.length).trans HeJ.out.symm)]; exact hk)
        have HJb := hidOf2 (wrN_b itsY L (catK I L L.length) L.length)
        have HJx := hidOf2 (show Dct F S (wrN itsY L (catK I L L.length) L.length) w6 → True from fun _ => trivial)
        obtain ⟨J2, hJ2⟩ : ∃ J, wrN itsY L (catK I L L.length) L.length = J := ⟨_, rfl⟩
        rw [hJ2] at HBA HBS HJ2 HkF HJb
        have HJE := hidOf2 hJ2
        generalize hcc : catK I L L.length = cc at *
        clear HPA HK6 hcc hJ2 HJx
        go_wp2_with (go_at_call 11; refine hCk.mono ?_; rintro e w7 ⟨rfl, b7⟩)
        have HB7 := hidOf2 (HB6.out.next b7)
        have HK7 := hidOf2 (show Bk g cc w7 from (b7.block g (Array.getElem?_eq_some_iff.1 HKc.out).1).trans HKc.out)
        have c7 := (HB7.out.next (below_self w7)).cY
        clear hCk b7 HB6 HKc c6 HB4
        go_upto_region 11 with fail
        go_cut [79] (fun s79 wx => s79 = .bool false ∧ Bb w l X D R E Y F S G I J2 wx ∧ Bk g cc wx)
        case first =>
          have HUn := hidOf2 (fun (y : World) (hy : Below w7.heap.size w7 y) (x5 : Value) (hW5 : Wide 3 slC y x5 L) (hx5 : ∀ b, x5.ownBlock = some b → w7.heap.size ≤ b) => pdUnpack_ok (HB7.out.next hy).dy x5 L hW5 hL (.slice (some ⟨g, 0, none⟩) (szC L) (szC L)) cc (Bk.bytes (cap := szC L) ((hy.block g (Array.getElem?_eq_some_iff.1 HK7.out).1).trans HK7.out : Bk g cc y) (szC L) HSL.out) (by rintro ao n c e; injection e with _ e2 e3; omega) (by rw [HSL.out]; omega) HTY.out (fit_mn HItY.out.fit) (by rw [HSL.out]; exact Nat.le_refl _) HBA.out.1 (fun b hb hm => by have := HB7.out.lty b hm; have := hx5 b hb; omega) (fun b hb hm => by
            simp [Value.ownBlock] at hb
            have := HgJ.out b hm
            omega))
          go_region_with (first | (go_at_call 9; refine (HB7.out.own HWS.out hL (by exact below_self w7)).mono ?_; rintro e w8 ⟨x8, rfl, hW8, b8, hx8⟩; have b8' : Below w7.heap.size w7 w8 := ⟨b8.os, b8.tape, b8.output, b8.size, b8.block⟩; have c8 := (HB7.out.next b8').cY) | (go_at_call 8; refine (HUn.out w8 b8' x8 hW8 hx8).mono ?_; rintro e w9 ⟨rfl, D9, K9⟩))
          all_goals
            rw [HJE.out] at D9
            have B9 := (HB7.out.next b8').uny D9 K9 HJb.out
            have k9 : Bk g cc w9 := (K9.block g (Array.getElem?_eq_some_iff.1 ((b8'.block g (Array.getElem?_eq_some_iff.1 HK7.out).1).trans HK7.out)).1 (fun hm => by have := HgJ.out g hm; omega)).trans ((b8'.block g (Array.getElem?_eq_some_iff.1 HK7.out).1).trans HK7.out)
            clear HUn c8 c7
            go_wp2
            go_meet
            case rel => exact ⟨rfl, B9, k9⟩
        case rest =>
        obtain ⟨rfl, hB9, hK9⟩ := hcut
        obtain ⟨w9, hw9⟩ : ∃ x, x = wc := ⟨_, rfl⟩
        subst hw9
        have HB9 := hidOf2 hB9
        have HK9 := hidOf2 hK9
        clear hB9 hK9 HB7 HK7 c7
        go_wp2_with fail
        go_loopw [12] (fun i x => ∃ k : Nat, k ≤ L.length ∧ i = .int .i64 k ∧ Hid (Bb w l X D R E Y F S G I J2 x) ∧ Hid (Bk g cc x)) (fun i _ => L.length - (intOf i).toNat)
        case atStart => exact ⟨0, Nat.zero_le _, rfl, HB9, HK9⟩
        case round =>
          clear HB9 HK9
          obtain ⟨k, hkL, rfl, HBr, HKr⟩ := hrel
          by_cases hkl : k < L.length
          · have hd : decide ((k : Int) < (L.length : Int)) = true := by simp; omega
            obtain ⟨ao', cap', hv', _, hcs⟩ := HWS.out.same HBr.out.below.size (fun b _ hl => HBr.out.below.block b hl)
            injection hv' with e1 e8 e9
            clear e8 e9
            obtain ⟨eb, eo, he2, hbr, hRg⟩ := hcs k hkl
            rw [he2] at e1
            subst e1
            have hgd : L.getD k Sl.nul = L[k] := by simp [List.getD_eq_getElem?_getD, hkl]
            have hVV := HBS.out k hkl
            have hz1 := ref_zero (ck_all HT.out k hkl).1
            have hz2 := ref_zero (ck_all HkF.out k hkl).1
            rw [hgd] at hVV hz1 hz2
            have hgI : getE I L[k].ix L[k].sb = 0 := by obtain ⟨im, h, _⟩ := hz1; unfold getE; rw [h]
            have hgJ : getE J2 L[k].ix L[k].sb = 0 := by obtain ⟨im, h, _⟩ := hz2; unfold getE; rw [h]
            have c0 := hRg 0 _ rfl
            have c1 := hRg 1 _ rfl
            simp only [Nat.add_zero] at c0
            have hxs := L[k].hx
            have hss := L[k].hs
            clear hz1 hz2 hgd hRg hcs he2
            generalize hsk : L[k] = s at *
            clear hsk
            obtain ⟨wb, hwb⟩ : ∃ x, x = wr := ⟨_, rfl⟩
            subst hwb
            have HSS := hidOf2 (fun (y : World) (hy : Below wb.heap.size wb y) => (show y.cell? ⟨X, 0, none⟩ = some (.pointer (some ⟨D, 0, none⟩)) ∧ y.cell? ⟨eb, eo + k * 3, none⟩ = some (.int .u16 (s.ix : Int)) ∧ y.cell? ⟨eb, eo + k * 3 + 1, none⟩ = some (.int .u8 (s.sb : Int)) from ⟨(HBr.out.next hy).cX.1, (hy.cell (p := ⟨eb, eo + k * 3, none⟩) hbr).trans c0, (hy.cell (p := ⟨eb, eo + k * 3 + 1, none⟩) hbr).trans c1⟩))
            have HSY := hidOf2 (fun (y : World) (hy : Below wb.heap.size wb y) => (show y.cell? ⟨Y, 0, none⟩ = some (.pointer (some ⟨F, 0, none⟩)) ∧ y.cell? ⟨eb, eo + k * 3, none⟩ = some (.int .u16 (s.ix : Int)) ∧ y.cell? ⟨eb, eo + k * 3 + 1, none⟩ = some (.int .u8 (s.sb : Int)) from ⟨(HBr.out.next hy).cY, (hy.cell (p := ⟨eb, eo + k * 3, none⟩) hbr).trans c0, (hy.cell (p := ⟨eb, eo + k * 3 + 1, none⟩) hbr).trans c1⟩))
            have HGet : Hid (∀ y, Below wb.heap.size wb y → Calls Try.prog 12 #[.pointer (some ⟨D, 0, none⟩), .int .u16 s.ix, .int .u8 s.sb] y fun e w' => e = .returned (.tuple #[.agg (getV I s.ix s.sb).arr, .int .i64 0]) ∧ Below y.heap.size y w') := fun y hy => by
              have := Get_any (HBr.out.next hy).dx s.ix s.sb hxs hss
              rw [hgI] at this
              exact this
            have HGeY : Hid (∀ y, Below wb.heap.size wb y → Calls Try.prog 12 #[.pointer (some ⟨F, 0, none⟩), .int .u16 s.ix, .int .u8 s.sb] y fun e w' => e = .returned (.tuple #[.agg (getV J2 s.ix s.sb).arr, .int .i64 0]) ∧ Below y.heap.size y w') := fun y hy => by
              have := Get_any (HBr.out.next hy).dy s.ix s.sb hxs hss
              rw [hgJ] at this
              exact this
            have HVV := hidOf2 hVV
            clear hVV hgI hgJ c0 c1
            go_upto_region 16 with fail
            go_cut [13, 14] (fun s13 s14 wx => ∃ q9 : Nat, s13 = .pointer (some ⟨q9, 0, none⟩) ∧ s14 = .int .i64 0 ∧ Va q9 (getV I s.ix s.sb) wx ∧ Below wb.heap.size wb wx)
            case first =>
              have d0 := below_self wb
              have S0 := HSS.out _ d0
              refine wp_region_held (S := fun y => y.cell? ⟨X, 0, none⟩ = some (.pointer (some ⟨D, 0, none⟩)) ∧ y.cell? ⟨eb, eo + k * 3, none⟩ = some (.int .u16 (s.ix : Int)) ∧ y.cell? ⟨eb, eo + k * 3 + 1, none⟩ = some (.int .u8 (s.sb : Int))) (by kernel_rfl) ?_
              change wpAnyH _ _ _ _ _ _ _ _ wb.drew
              refine wpAnyH_take (i := 0) (v := (.pointer (some ⟨X, 0, none⟩))) rfl (by kernel_rfl) (by kernel_rfl) (by kernel_rfl) (fun _ _ _ h => h) (.inl ⟨rfl, fun _ hS => rfl⟩) S0 ?_
              simp only [List.getElem_toArray, List.getElem_cons_succ, List.getElem_cons_zero, Act.put, List.setIfInBounds_toArray, List.set_cons_succ, List.set_cons_zero]
              refine wpAnyH_take (i := 1) (v := (.pointer (some ⟨X, 0, none⟩))) rfl (by kernel_rfl) (by kernel_rfl) (by kernel_rfl) (fun _ _ _ h => h) (.inl ⟨rfl, fun _ hS => by simp [execOp, go_sem, Act.eval]⟩) S0 ?_
              simp only [List.getElem_toArray, List.getElem_cons_succ, List.getElem_cons_zero, Act.put, List.setIfInBounds_toArray, List.set_cons_succ, List.set_cons_zero]
              refine wpAnyH_take (i := 2) (v := (.pointer (some ⟨X, 0, none⟩))) rfl (by kernel_rfl) (by kernel_rfl) (by kernel_rfl) (fun _ _ _ h => h) (.inl ⟨rfl, fun _ hS => by simp [execOp, go_sem, Act.eval]⟩) S0 ?_
              simp only [List.getElem_toArray, List.getElem_cons_succ, List.getElem_cons_zero, Act.put, List.setIfInBounds_toArray, List.set_cons_succ, List.set_cons_zero]
              refine wpAnyH_take (i := 3) (v := (.pointer (some ⟨D, 0, none⟩))) rfl (by kernel_rfl) (by kernel_rfl) (by kernel_rfl) (fun _ _ _ h => h) (.inl ⟨rfl, fun _ hS => exec_load rfl rfl (load_pd _ _ _ _ hS.1)⟩) S0 ?_
              simp only [List.getElem_toArray, List.getElem_cons_succ, List.getElem_cons_zero, Act.put, List.setIfInBounds_toArray, List.set_cons_succ, List.set_cons_zero]
              refine wpAnyH_take (i := 4) (v := (.slice (some ⟨eb, eo, none⟩) L.length cS)) rfl (by kernel_rfl) (by kernel_rfl) (by kernel_rfl) (fun _ _ _ h => h) (.inl ⟨rfl, fun _ hS => rfl⟩) S0 ?_
              simp only [List.getElem_toArray, List.getElem_cons_succ, List.getElem_cons_zero, Act.put, List.setIfInBounds_toArray, List.set_cons_succ, List.set_cons_zero]
              refine wpAnyH_take (i := 5) (v := (.int .i64 (k : Int))) rfl (by kernel_rfl) (by kernel_rfl) (by kernel_rfl) (fun _ _ _ h => h) (.inl ⟨rfl, fun _ hS => rfl⟩) S0 ?_
              simp only [List.getElem_toArray, List.getElem_cons_succ, List.getElem_cons_zero, Act.put, List.setIfInBounds_toArray, List.set_cons_succ, List.set_cons_zero]
              refine wpAnyH_take (i := 6) (v := (.pointer (some ⟨eb, eo + k * 3, none⟩))) rfl (by kernel_rfl) (by kernel_rfl) (by kernel_rfl) (fun _ _ _ h => h) (.inl ⟨rfl, fun _ hS => exec_idxSl rfl rfl rfl hkl _⟩) S0 ?_
              simp only [List.getElem_toArray, List.getElem_cons_succ, List.getElem_cons_zero, Act.put, List.setIfInBounds_toArray, List.set_cons_succ, List.set_cons_zero]
              refine wpAnyH_take (i := 7) (v := (.pointer (some ⟨eb, eo + k * 3, none⟩))) rfl (by kernel_rfl) (by kernel_rfl) (by kernel_rfl) (fun _ _ _ h => h) (.inl ⟨rfl, fun _ hS => by simp [execOp, go_sem, Act.eval]⟩) S0 ?_
              simp only [List.getElem_toArray, List.getElem_cons_succ, List.getElem_cons_zero, Act.put, List.setIfInBounds_toArray, List.set_cons_succ, List.set_cons_zero]
              refine wpAnyH_take (i := 8) (v := (.int .u16 s.ix)) rfl (by kernel_rfl) (by kernel_rfl) (by kernel_rfl) (fun _ _ _ h => h) (.inl ⟨rfl, fun _ hS => exec_load rfl rfl (load_u16 _ _ _ _ hS.2.1)⟩) S0 ?_
              simp only [List.getElem_toArray, List.getElem_cons_succ, List.getElem_cons_zero, Act.put, List.setIfInBounds_toArray, List.set_cons_succ, List.set_cons_zero]
              refine wpAnyH_take (i := 9) (v := (.slice (some ⟨eb, eo, none⟩) L.length cS)) rfl (by kernel_rfl) (by kernel_rfl) (by kernel_rfl) (fun _ _ _ h => h) (.inl ⟨rfl, fun _ hS => rfl⟩) S0 ?_
              simp only [List.getElem_toArray, List.getElem_cons_succ, List.getElem_cons_zero, Act.put, List.setIfInBounds_toArray, List.set_cons_succ, List.set_cons_zero]
              refine wpAnyH_take (i := 10) (v := (.int .i64 (k : Int))) rfl (by kernel_rfl) (by kernel_rfl) (by kernel_rfl) (fun _ _ _ h => h) (.inl ⟨rfl, fun _ hS => rfl⟩) S0 ?_
              simp only [List.getElem_toArray, List.getElem_cons_succ, List.getElem_cons_zero, Act.put, List.setIfInBounds_toArray, List.set_cons_succ, List.set_cons_zero]
              refine wpAnyH_take (i := 11) (v := (.pointer (some ⟨eb, eo + k * 3, none⟩))) rfl (by kernel_rfl) (by kernel_rfl) (by kernel_rfl) (fun _ _ _ h => h) (.inl ⟨rfl, fun _ hS => exec_idxSl rfl rfl rfl hkl _⟩) S0 ?_
              simp only [List.getElem_toArray, List.getElem_cons_succ, List.getElem_cons_zero, Act.put, List.setIfInBounds_toArray, List.set_cons_succ, List.set_cons_zero]
              refine wpAnyH_take (i := 12) (v := (.pointer (some ⟨eb, eo + k * 3 + 1, none⟩))) rfl (by kernel_rfl) (by kernel_rfl) (by kernel_rfl) (fun _ _ _ h => h) (.inl ⟨rfl, fun _ hS => by simp [execOp, go_sem, Act.eval]⟩) S0 ?_
              simp only [List.getElem_toArray, List.getElem_cons_succ, List.getElem_cons_zero, Act.put, List.setIfInBounds_toArray, List.set_cons_succ, List.set_cons_zero]
              refine wpAnyH_take (i := 13) (v := (.int .u8 s.sb)) rfl (by kernel_rfl) (by kernel_rfl) (by kernel_rfl) (fun _ _ _ h => h) (.inl ⟨rfl, fun _ hS => exec_load rfl rfl (load_u8 _ _ _ _ hS.2.2)⟩) S0 ?_
              simp only [List.getElem_toArray, List.getElem_cons_succ, List.getElem_cons_zero, Act.put, List.setIfInBounds_toArray, List.set_cons_succ, List.set_cons_zero]
              refine wpAnyH_all (rs := [14, 18]) (by kernel_rfl) (by simp) ?_
              intro k hk
              simp only [List.mem_cons, List.mem_nil_iff, or_false] at hk
              rcases hk with rfl | rfl
              · refine wpOp_run rfl rfl (wp_call_fn 12 #[.pointer (some ⟨D, 0, none⟩), .int .u16 s.ix, .int .u8 s.sb] (by simp [execOp, go_sem, Act.eval, resolve, invoke, enterG13]) ?_)
                refine (HGet.out _ d0).mono ?_
                rintro e u1 ⟨rfl, b1⟩
                have d1 := d0.trans (b1.mono d0.size)
                have s1 := HSS.out _ d1
                refine ⟨s1, ?_⟩
                simp only [List.getElem_toArray, List.getElem_cons_succ, List.getElem_cons_zero, Act.put, List.setIfInBounds_toArray, List.set_cons_succ, List.set_cons_zero]
                refine wpAnyH_take (i := 15) (v := (.tuple #[.agg (getV I s.ix s.sb).arr, .int .i64 0])) rfl (by kernel_rfl) (by kernel_rfl) (by kernel_rfl) (fun _ _ _ h => h) (.inl ⟨rfl, fun _ hS => rfl⟩) s1 ?_
                simp only [List.getElem_toArray, List.getElem_cons_succ, List.getElem_cons_zero, Act.put, List.setIfInBounds_toArray, List.set_cons_succ, List.set_cons_zero]
                refine wpAnyH_take (i := 16) (v := (.agg (getV I s.ix s.sb).arr)) rfl (by kernel_rfl) (by kernel_rfl) (by kernel_rfl) (fun _ _ _ h => h) (.inl ⟨rfl, fun _ hS => by simp [execOp, go_sem, Act.eval]⟩) s1 ?_
                simp only [List.getElem_toArray, List.getElem_cons_succ, List.getElem_cons_zero, Act.put, List.setIfInBounds_toArray, List.set_cons_succ, List.set_cons_zero]
                refine wpAnyH_take (i := 17) (v := (.int .i64 0)) rfl (by kernel_rfl) (by kernel_rfl) (by kernel_rfl) (fun _ _ _ h => h) (.inl ⟨rfl, fun _ hS => by simp [execOp, go_sem, Act.eval]⟩) s1 ?_
                simp only [List.getElem_toArray, List.getElem_cons_succ, List.getElem_cons_zero, Act.put, List.setIfInBounds_toArray, List.set_cons_succ, List.set_cons_zero]
                refine wpAnyH_all (rs := [18]) (by kernel_rfl) (by simp) ?_
                intro k hk
                simp only [List.mem_cons, List.mem_nil_iff, or_false] at hk
                subst hk
                refine wpOp_run rfl rfl (wp_allocV rfl ?_)
                obtain ⟨q9, hq9⟩ : ∃ q, u1.heap.size = q := ⟨_, rfl⟩
                have g2 := Va.new u1 Vl.nul
                have d2 := d1.alloc d1.size (.cells Vl.nul.arr 42)
                have s2 := HSS.out _ d2
                have hqr : wb.heap.size ≤ q9 := by rw [← hq9]; exact d1.size
                rw [hq9] at g2 ⊢
                generalize u1.alloc (.cells Vl.nul.arr 42) = u2 at *
                refine ⟨s2, ?_⟩
                simp only [List.getElem_toArray, List.getElem_cons_succ, List.getElem_cons_zero, Act.put, List.setIfInBounds_toArray, List.set_cons_succ, List.set_cons_zero]
                refine wpAnyH_all (rs := [19]) (by kernel_rfl) (by simp) ?_
                intro k hk
                simp only [List.mem_cons, List.mem_nil_iff, or_false] at hk
                subst hk
                refine wpOp_run rfl rfl (wp_store_row 42 _ _ rfl q9 (getV I s.ix s.sb).arr rfl rfl 42 Vl.nul.arr g2 (by rw [Vl.arr_size]; exact infoV) (by rw [Vl.arr_size, Vl.arr_size]) (getV I s.ix s.sb).one ?_)
                have gZ := g2.row (getV I s.ix s.sb)
                have dZ := below_row d2 hqr d2.size (q := q9) (getV I s.ix s.sb).arr
                have sZ := HSS.out _ dZ
                refine ⟨sZ, ?_⟩
                simp only [List.getElem_toArray, List.getElem_cons_succ, List.getElem_cons_zero, Act.put, List.setIfInBounds_toArray, List.set_cons_succ, List.set_cons_zero]
                refine wpAnyH_take (i := 20) (v := (.int .i64 0)) rfl (by kernel_rfl) (by kernel_rfl) (by kernel_rfl) (fun _ _ _ h => h) (.inl ⟨rfl, fun _ hS => rfl⟩) sZ ?_
                simp only [List.getElem_toArray, List.getElem_cons_succ, List.getElem_cons_zero, Act.put, List.setIfInBounds_toArray, List.set_cons_succ, List.set_cons_zero]
                refine wpAnyH_done (by kernel_rfl) ?_ _
                go_wp2
                go_meet
                case rel => exact ⟨q9, rfl, rfl, gZ, dZ⟩
              · refine wpOp_run rfl rfl (wp_allocV rfl ?_)
                obtain ⟨q9, hq9⟩ : ∃ q, wb.drew.heap.size = q := ⟨_, rfl⟩
                have g1 := Va.new wb.drew Vl.nul
                have d1 := d0.alloc d0.size (.cells Vl.nul.arr 42)
                have s1 := HSS.out _ d1
                have hqr : wb.heap.size ≤ q9 := by rw [← hq9]; exact d0.size
                rw [hq9] at g1 ⊢
                generalize wb.drew.alloc (.cells Vl.nul.arr 42) = u1 at *
                refine ⟨s1, ?_⟩
                simp only [List.getElem_toArray, List.getElem_cons_succ, List.getElem_cons_zero, Act.put, List.setIfInBounds_toArray, List.set_cons_succ, List.set_cons_zero]
                refine wpAnyH_all (rs := [14]) (by kernel_rfl) (by simp) ?_
                intro k hk
                simp only [List.mem_cons, List.mem_nil_iff, or_false] at hk
                subst hk
                refine wpOp_run rfl rfl (wp_call_fn 12 #[.pointer (some ⟨D, 0, none⟩), .int .u16 s.ix, .int .u8 s.sb] (by simp [execOp, go_sem, Act.eval, resolve, invoke, enterG13]) ?_)
                refine (HGet.out _ d1).mono ?_
                rintro e u2 ⟨rfl, b2⟩
                have d2 := d1.trans (b2.mono d1.size)
                have s2 := HSS.out _ d2
                have g2 := g1.below b2
                refine ⟨s2, ?_⟩
                simp only [List.getElem_toArray, List.getElem_cons_succ, List.getElem_cons_zero, Act.put, List.setIfInBounds_toArray, List.set_cons_succ, List.set_cons_zero]
                refine wpAnyH_take (i := 15) (v := (.tuple #[.agg (getV I s.ix s.sb).arr, .int .i64 0])) rfl (by kernel_rfl) (by kernel_rfl) (by kernel_rfl) (fun _ _ _ h => h) (.inl ⟨rfl, fun _ hS => rfl⟩) s2 ?_
                simp only [List.getElem_toArray, List.getElem_cons_succ, List.getElem_cons_zero, Act.put, List.setIfInBounds_toArray, List.set_cons_succ, List.set_cons_zero]
                refine wpAnyH_take (i := 16) (v := (.agg (getV I s.ix s.sb).arr)) rfl (by kernel_rfl) (by kernel_rfl) (by kernel_rfl) (fun _ _ _ h => h) (.inl ⟨rfl, fun _ hS => by simp [execOp, go_sem, Act.eval]⟩) s2 ?_
                simp only [List.getElem_toArray, List.getElem_cons_succ, List.getElem_cons_zero, Act.put, List.setIfInBounds_toArray, List.set_cons_succ, List.set_cons_zero]
                refine wpAnyH_take (i := 17) (v := (.int .i64 0)) rfl (by kernel_rfl) (by kernel_rfl) (by kernel_rfl) (fun _ _ _ h => h) (.inl ⟨rfl, fun _ hS => by simp [execOp, go_sem, Act.eval]⟩) s2 ?_
                simp only [List.getElem_toArray, List.getElem_cons_succ, List.getElem_cons_zero, Act.put, List.setIfInBounds_toArray, List.set_cons_succ, List.set_cons_zero]
                refine wpAnyH_all (rs := [19]) (by kernel_rfl) (by simp) ?_
                intro k hk
                simp only [List.mem_cons, List.mem_nil_iff, or_false] at hk
                subst hk
                refine wpOp_run rfl rfl (wp_store_row 42 _ _ rfl q9 (getV I s.ix s.sb).arr rfl rfl 42 Vl.nul.arr g2 (by rw [Vl.arr_size]; exact infoV) (by rw [Vl.arr_size, Vl.arr_size]) (getV I s.ix s.sb).one ?_)
                have gZ := g2.row (getV I s.ix s.sb)
                have dZ := below_row d2 hqr d2.size (q := q9) (getV I s.ix s.sb).arr
                have sZ := HSS.out _ dZ
                refine ⟨sZ, ?_⟩
                simp only [List.getElem_toArray, List.getElem_cons_succ, List.getElem_cons_zero, Act.put, List.setIfInBounds_toArray, List.set_cons_succ, List.set_cons_zero]
                refine wpAnyH_take (i := 20) (v := (.int .i64 0)) rfl (by kernel_rfl) (by kernel_rfl) (by kernel_rfl) (fun _ _ _ h => h) (.inl ⟨rfl, fun _ hS => rfl⟩) sZ ?_
                simp only [List.getElem_toArray, List.getElem_cons_succ, List.getElem_cons_zero, Act.put, List.setIfInBounds_toArray, List.set_cons_succ, List.set_cons_zero]
                refine wpAnyH_done (by kernel_rfl) ?_ _
                go_wp2
                go_meet
                case rel => exact ⟨q9, rfl, rfl, gZ, dZ⟩
            case rest =>
            obtain ⟨q9, rfl, rfl, g9, d9⟩ := hcut
            obtain ⟨wb2, hwb2⟩ : ∃ x, x = wc := ⟨_, rfl⟩
            subst hwb2
            have HG9 := hidOf2 g9
            have HD9 := hidOf2 d9
            clear HSS HGet g9 d9
            go_upto_region 17 with fail
            go_cut [15, 16] (fun s15 s16 wx => ∃ q10 : Nat, s15 = .pointer (some ⟨q10, 0, none⟩) ∧ s16 = .int .i64 0 ∧ Va q10 (getV J2 s.ix s.sb) wx ∧ Below wb2.heap.size wb2 wx)
            case first =>
              have HSS := hidOf2 (fun (y : World) (hy : Below wb2.heap.size wb2 y) => HSY.out y (HD9.out.trans (hy.mono HD9.out.size)))
              have HGet := hidOf2 (fun (y : World) (hy : Below wb2.heap.size wb2 y) => HGeY.out y (HD9.out.trans (hy.mono HD9.out.size)))
              have d0 := below_self wb2
              have S0 := HSS.out _ d0
              refine wp_region_held (S := fun y => y.cell? ⟨Y, 0, none⟩ = some (.pointer (some ⟨F, 0, none⟩)) ∧ y.cell? ⟨eb, eo + k * 3, none⟩ = some (.int .u16 (s.ix : Int)) ∧ y.cell? ⟨eb, eo + k * 3 + 1, none⟩ = some (.int .u8 (s.sb : Int))) (by kernel_rfl) ?_
              change wpAnyH _ _ _ _ _ _ _ _ wb2.drew
              refine wpAnyH_take (i := 0) (v := (.pointer (some ⟨Y, 0, none⟩))) rfl (by kernel_rfl) (by kernel_rfl) (by kernel_rfl) (fun _ _ _ h => h) (.inl ⟨rfl, fun _ hS => rfl⟩) S0 ?_
              simp only [List.getElem_toArray, List.getElem_cons_succ, List.getElem_cons_zero, Act.put, List.setIfInBounds_toArray, List.set_cons_succ, List.set_cons_zero]
              refine wpAnyH_take (i := 1) (v := (.pointer (some ⟨Y, 0, none⟩))) rfl (by kernel_rfl) (by kernel_rfl) (by kernel_rfl) (fun _ _ _ h => h) (.inl ⟨rfl, fun _ hS => by simp [execOp, go_sem, Act.eval]⟩) S0 ?_
              simp only [List.getElem_toArray, List.getElem_cons_succ, List.getElem_cons_zero, Act.put, List.setIfInBounds_toArray, List.set_cons_succ, List.set_cons_zero]
              refine wpAnyH_take (i := 2) (v := (.pointer (some ⟨Y, 0, none⟩))) rfl (by kernel_rfl) (by kernel_rfl) (by kernel_rfl) (fun _ _ _ h => h) (.inl ⟨rfl, fun _ hS => by simp [execOp, go_sem, Act.eval]⟩) S0 ?_
              simp only [List.getElem_toArray, List.getElem_cons_succ, List.getElem_cons_zero, Act.put, List.setIfInBounds_toArray, List.set_cons_succ, List.set_cons_zero]
              refine wpAnyH_take (i := 3) (v := (.pointer (some ⟨F, 0, none⟩))) rfl (by kernel_rfl) (by kernel_rfl) (by kernel_rfl) (fun _ _ _ h => h) (.inl ⟨rfl, fun _ hS => exec_load rfl rfl (load_pd _ _ _ _ hS.1)⟩) S0 ?_
              simp only [List.getElem_toArray, List.getElem_cons_succ, List.getElem_cons_zero, Act.put, List.setIfInBounds_toArray, List.set_cons_succ, List.set_cons_zero]
              refine wpAnyH_take (i := 4) (v := (.slice (some ⟨eb, eo, none⟩) L.length cS)) rfl (by kernel_rfl) (by kernel_rfl) (by kernel_rfl) (fun _ _ _ h => h) (.inl ⟨rfl, fun _ hS => rfl⟩) S0 ?_
              simp only [List.getElem_toArray, List.getElem_cons_succ, List.getElem_cons_zero, Act.put, List.setIfInBounds_toArray, List.set_cons_succ, List.set_cons_zero]
              refine wpAnyH_take (i := 5) (v := (.int .i64 (k : Int))) rfl (by kernel_rfl) (by kernel_rfl) (by kernel_rfl) (fun _ _ _ h => h) (.inl ⟨rfl, fun _ hS => rfl⟩) S0 ?_
              simp only [List.getElem_toArray, List.getElem_cons_succ, List.getElem_cons_zero, Act.put, List.setIfInBounds_toArray, List.set_cons_succ, List.set_cons_zero]
              refine wpAnyH_take (i := 6) (v := (.pointer (some ⟨eb, eo + k * 3, none⟩))) rfl (by kernel_rfl) (by kernel_rfl) (by kernel_rfl) (fun _ _ _ h => h) (.inl ⟨rfl, fun _ hS => exec_idxSl rfl rfl rfl hkl _⟩) S0 ?_
              simp only [List.getElem_toArray, List.getElem_cons_succ, List.getElem_cons_zero, Act.put, List.setIfInBounds_toArray, List.set_cons_succ, List.set_cons_zero]
              refine wpAnyH_take (i := 7) (v := (.pointer (some ⟨eb, eo + k * 3, none⟩))) rfl (by kernel_rfl) (by kernel_rfl) (by kernel_rfl) (fun _ _ _ h => h) (.inl ⟨rfl, fun _ hS => by simp [execOp, go_sem, Act.eval]⟩) S0 ?_
              simp only [List.getElem_toArray, List.getElem_cons_succ, List.getElem_cons_zero, Act.put, List.setIfInBounds_toArray, List.set_cons_succ, List.set_cons_zero]
              refine wpAnyH_take (i := 8) (v := (.int .u16 s.ix)) rfl (by kernel_rfl) (by kernel_rfl) (by kernel_rfl) (fun _ _ _ h => h) (.inl ⟨rfl, fun _ hS => exec_load rfl rfl (load_u16 _ _ _ _ hS.2.1)⟩) S0 ?_
              simp only [List.getElem_toArray, List.getElem_cons_succ, List.getElem_cons_zero, Act.put, List.setIfInBounds_toArray, List.set_cons_succ, List.set_cons_zero]
              refine wpAnyH_take (i := 9) (v := (.slice (some ⟨eb, eo, none⟩) L.length cS)) rfl (by kernel_rfl) (by kernel_rfl) (by kernel_rfl) (fun _ _ _ h => h) (.inl ⟨rfl, fun _ hS => rfl⟩) S0 ?_
              simp only [List.getElem_toArray, List.getElem_cons_succ, List.getElem_cons_zero, Act.put, List.setIfInBounds_toArray, List.set_cons_succ, List.set_cons_zero]
              refine wpAnyH_take (i := 10) (v := (.int .i64 (k : Int))) rfl (by kernel_rfl) (by kernel_rfl) (by kernel_rfl) (fun _ _ _ h => h) (.inl ⟨rfl, fun _ hS => rfl⟩) S0 ?_
              simp only [List.getElem_toArray, List.getElem_cons_succ, List.getElem_cons_zero, Act.put, List.setIfInBounds_toArray, List.set_cons_succ, List.set_cons_zero]
              refine wpAnyH_take (i := 11) (v := (.pointer (some ⟨eb, eo + k * 3, none⟩))) rfl (by kernel_rfl) (by kernel_rfl) (by kernel_rfl) (fun _ _ _ h => h) (.inl ⟨rfl, fun _ hS => exec_idxSl rfl rfl rfl hkl _⟩) S0 ?_
              simp only [List.getElem_toArray, List.getElem_cons_succ, List.getElem_cons_zero, Act.put, List.setIfInBounds_toArray, List.set_cons_succ, List.set_cons_zero]
              refine wpAnyH_take (i := 12) (v := (.pointer (some ⟨eb, eo + k * 3 + 1, none⟩))) rfl (by kernel_rfl) (by kernel_rfl) (by kernel_rfl) (fun _ _ _ h => h) (.inl ⟨rfl, fun _ hS => by simp [execOp, go_sem, Act.eval]⟩) S0 ?_
              simp only [List.getElem_toArray, List.getElem_cons_succ, List.getElem_cons_zero, Act.put, List.setIfInBounds_toArray, List.set_cons_succ, List.set_cons_zero]
              refine wpAnyH_take (i := 13) (v := (.int .u8 s.sb)) rfl (by kernel_rfl) (by kernel_rfl) (by kernel_rfl) (fun _ _ _ h => h) (.inl ⟨rfl, fun _ hS => exec_load rfl rfl (load_u8 _ _ _ _ hS.2.2)⟩) S0 ?_
              simp only [List.getElem_toArray, List.getElem_cons_succ, List.getElem_cons_zero, Act.put, List.setIfInBounds_toArray, List.set_cons_succ, List.set_cons_zero]
              refine wpAnyH_all (rs := [14, 18]) (by kernel_rfl) (by simp) ?_
              intro k hk
              simp only [List.mem_cons, List.mem_nil_iff, or_false] at hk
              rcases hk with rfl | rfl
              · refine wpOp_run rfl rfl (wp_call_fn 12 #[.pointer (some ⟨F, 0, none⟩), .int .u16 s.ix, .int .u8 s.sb] (by simp [execOp, go_sem, Act.eval, resolve, invoke, enterG13]) ?_)
                refine (HGet.out _ d0).mono ?_
                rintro e u1 ⟨rfl, b1⟩
                have d1 := d0.trans (b1.mono d0.size)
                have s1 := HSS.out _ d1
                refine ⟨s1, ?_⟩
                simp only [List.getElem_toArray, List.getElem_cons_succ, List.getElem_cons_zero, Act.put, List.setIfInBounds_toArray, List.set_cons_succ, List.set_cons_zero]
                refine wpAnyH_take (i := 15) (v := (.tuple #[.agg (getV J2 s.ix s.sb).arr, .int .i64 0])) rfl (by kernel_rfl) (by kernel_rfl) (by kernel_rfl) (fun _ _ _ h => h) (.inl ⟨rfl, fun _ hS => rfl⟩) s1 ?_
                simp only [List.getElem_toArray, List.getElem_cons_succ, List.getElem_cons_zero, Act.put, List.setIfInBounds_toArray, List.set_cons_succ, List.set_cons_zero]
                refine wpAnyH_take (i := 16) (v := (.agg (getV J2 s.ix s.sb).arr)) rfl (by kernel_rfl) (by kernel_rfl) (by kernel_rfl) (fun _ _ _ h => h) (.inl ⟨rfl, fun _ hS => by simp [execOp, go_sem, Act.eval]⟩) s1 ?_
                simp only [List.getElem_toArray, List.getElem_cons_succ, List.getElem_cons_zero, Act.put, List.setIfInBounds_toArray, List.set_cons_succ, List.set_cons_zero]
                refine wpAnyH_take (i := 17) (v := (.int .i64 0)) rfl (by kernel_rfl) (by kernel_rfl) (by kernel_rfl) (fun _ _ _ h => h) (.inl ⟨rfl, fun _ hS => by simp [execOp, go_sem, Act.eval]⟩) s1 ?_
                simp only [List.getElem_toArray, List.getElem_cons_succ, List.getElem_cons_zero, Act.put, List.setIfInBounds_toArray, List.set_cons_succ, List.set_cons_zero]
                refine wpAnyH_all (rs := [18]) (by kernel_rfl) (by simp) ?_
                intro k hk
                simp only [List.mem_cons, List.mem_nil_iff, or_false] at hk
                subst hk
                refine wpOp_run rfl rfl (wp_allocV rfl ?_)
                obtain ⟨q10, hq9⟩ : ∃ q, u1.heap.size = q := ⟨_, rfl⟩
                have g2 := Va.new u1 Vl.nul
                have d2 := d1.alloc d1.size (.cells Vl.nul.arr 42)
                have s2 := HSS.out _ d2
                have hqr : wb2.heap.size ≤ q10 := by rw [← hq9]; exact d1.size
                rw [hq9] at g2 ⊢
                generalize u1.alloc (.cells Vl.nul.arr 42) = u2 at *
                refine ⟨s2, ?_⟩
                simp only [List.getElem_toArray, List.getElem_cons_succ, List.getElem_cons_zero, Act.put, List.setIfInBounds_toArray, List.set_cons_succ, List.set_cons_zero]
                refine wpAnyH_all (rs := [19]) (by kernel_rfl) (by simp) ?_
                intro k hk
                simp only [List.mem_cons, List.mem_nil_iff, or_false] at hk
                subst hk
                refine wpOp_run rfl rfl (wp_store_row 42 _ _ rfl q10 (getV J2 s.ix s.sb).arr rfl rfl 42 Vl.nul.arr g2 (by rw [Vl.arr_size]; exact infoV) (by rw [Vl.arr_size, Vl.arr_size]) (getV J2 s.ix s.sb).one ?_)
                have gZ := g2.row (getV J2 s.ix s.sb)
                have dZ := below_row d2 hqr d2.size (q := q10) (getV J2 s.ix s.sb).arr
                have sZ := HSS.out _ dZ
                refine ⟨sZ, ?_⟩
                simp only [List.getElem_toArray, List.getElem_cons_succ, List.getElem_cons_zero, Act.put, List.setIfInBounds_toArray, List.set_cons_succ, List.set_cons_zero]
                refine wpAnyH_take (i := 20) (v := (.int .i64 0)) rfl (by kernel_rfl) (by kernel_rfl) (by kernel_rfl) (fun _ _ _ h => h) (.inl ⟨rfl, fun _ hS => rfl⟩) sZ ?_
                simp only [List.getElem_toArray, List.getElem_cons_succ, List.getElem_cons_zero, Act.put, List.setIfInBounds_toArray, List.set_cons_succ, List.set_cons_zero]
                refine wpAnyH_done (by kernel_rfl) ?_ _
                go_wp2
                go_meet
                case rel => exact ⟨q10, rfl, rfl, gZ, dZ⟩
              · refine wpOp_run rfl rfl (wp_allocV rfl ?_)
                obtain ⟨q10, hq9⟩ : ∃ q, wb2.drew.heap.size = q := ⟨_, rfl⟩
                have g1 := Va.new wb2.drew Vl.nul
                have d1 := d0.alloc d0.size (.cells Vl.nul.arr 42)
                have s1 := HSS.out _ d1
                have hqr : wb2.heap.size ≤ q10 := by rw [← hq9]; exact d0.size
                rw [hq9] at g1 ⊢
                generalize wb2.drew.alloc (.cells Vl.nul.arr 42) = u1 at *
                refine ⟨s1, ?_⟩
                simp only [List.getElem_toArray, List.getElem_cons_succ, List.getElem_cons_zero, Act.put, List.setIfInBounds_toArray, List.set_cons_succ, List.set_cons_zero]
                refine wpAnyH_all (rs := [14]) (by kernel_rfl) (by simp) ?_
                intro k hk
                simp only [List.mem_cons, List.mem_nil_iff, or_false] at hk
                subst hk
                refine wpOp_run rfl rfl (wp_call_fn 12 #[.pointer (some ⟨F, 0, none⟩), .int .u16 s.ix, .int .u8 s.sb] (by simp [execOp, go_sem, Act.eval, resolve, invoke, enterG13]) ?_)
                refine (HGet.out _ d1).mono ?_
                rintro e u2 ⟨rfl, b2⟩
                have d2 := d1.trans (b2.mono d1.size)
                have s2 := HSS.out _ d2
                have g2 := g1.below b2
                refine ⟨s2, ?_⟩
                simp only [List.getElem_toArray, List.getElem_cons_succ, List.getElem_cons_zero, Act.put, List.setIfInBounds_toArray, List.set_cons_succ, List.set_cons_zero]
                refine wpAnyH_take (i := 15) (v := (.tuple #[.agg (getV J2 s.ix s.sb).arr, .int .i64 0])) rfl (by kernel_rfl) (by kernel_rfl) (by kernel_rfl) (fun _ _ _ h => h) (.inl ⟨rfl, fun _ hS => rfl⟩) s2 ?_
                simp only [List.getElem_toArray, List.getElem_cons_succ, List.getElem_cons_zero, Act.put, List.setIfInBounds_toArray, List.set_cons_succ, List.set_cons_zero]
                refine wpAnyH_take (i := 16) (v := (.agg (getV J2 s.ix s.sb).arr)) rfl (by kernel_rfl) (by kernel_rfl) (by kernel_rfl) (fun _ _ _ h => h) (.inl ⟨rfl, fun _ hS => by simp [execOp, go_sem, Act.eval]⟩) s2 ?_
                simp only [List.getElem_toArray, List.getElem_cons_succ, List.getElem_cons_zero, Act.put, List.setIfInBounds_toArray, List.set_cons_succ, List.set_cons_zero]
                refine wpAnyH_take (i := 17) (v := (.int .i64 0)) rfl (by kernel_rfl) (by kernel_rfl) (by kernel_rfl) (fun _ _ _ h => h) (.inl ⟨rfl, fun _ hS => by simp [execOp, go_sem, Act.eval]⟩) s2 ?_
                simp only [List.getElem_toArray, List.getElem_cons_succ, List.getElem_cons_zero, Act.put, List.setIfInBounds_toArray, List.set_cons_succ, List.set_cons_zero]
                refine wpAnyH_all (rs := [19]) (by kernel_rfl) (by simp) ?_
                intro k hk
                simp only [List.mem_cons, List.mem_nil_iff, or_false] at hk
                subst hk
                refine wpOp_run rfl rfl (wp_store_row 42 _ _ rfl q10 (getV J2 s.ix s.sb).arr rfl rfl 42 Vl.nul.arr g2 (by rw [Vl.arr_size]; exact infoV) (by rw [Vl.arr_size, Vl.arr_size]) (getV J2 s.ix s.sb).one ?_)
                have gZ := g2.row (getV J2 s.ix s.sb)
                have dZ := below_row d2 hqr d2.size (q := q10) (getV J2 s.ix s.sb).arr
                have sZ := HSS.out _ dZ
                refine ⟨sZ, ?_⟩
                simp only [List.getElem_toArray, List.getElem_cons_succ, List.getElem_cons_zero, Act.put, List.setIfInBounds_toArray, List.set_cons_succ, List.set_cons_zero]
                refine wpAnyH_take (i := 20) (v := (.int .i64 0)) rfl (by kernel_rfl) (by kernel_rfl) (by kernel_rfl) (fun _ _ _ h => h) (.inl ⟨rfl, fun _ hS => rfl⟩) sZ ?_
                simp only [List.getElem_toArray, List.getElem_cons_succ, List.getElem_cons_zero, Act.put, List.setIfInBounds_toArray, List.set_cons_succ, List.set_cons_zero]
                refine wpAnyH_done (by kernel_rfl) ?_ _
                go_wp2
                go_meet
                case rel => exact ⟨q10, rfl, rfl, gZ, dZ⟩
            case rest =>
            obtain ⟨q10, rfl, rfl, g10, d10⟩ := hcut
            rw [HVV.out] at g10
            have g9 := HG9.out.below d10
            have HEz := hidOf2 (HD9.out.trans (d10.mono HD9.out.size))
            obtain ⟨VV, hVV⟩ : ∃ V, getV I s.ix s.sb = V := ⟨_, rfl⟩
            rw [hVV] at g9 g10
            have hvs := vlB_same VV
            clear HVV HG9 HD9 HGeY HSY hVV
            go_wp2_with (first | (refine g9.ld rfl _ rfl rfl ?_) | (refine g10.ld rfl _ rfl rfl ?_) | (refine neqv VV VV rfl _ _ rfl rfl rfl ?_; rw [hvs]))
            go_roundw
            case rel => exact ⟨k + 1, by omega, by go_num, HBr.out.next HEz.out, (HEz.out.block g (Array.getElem?_eq_some_iff.1 HKr.out).1).trans HKr.out⟩
            case measure => simp [intOf]; omega
          · have hd : decide ((k : Int) < (L.length : Int)) = false := by simp; omega
            have cz := (HBr.out.next (below_self wr)).cY
            have HSm := hidOf2 (fun (y : World) (hy : Below wr.heap.size wr y) (x5 : Value) (hW5 : Wide 3 slC y x5 L) => pdSame_any (HBr.out.next hy).dy x5 L hW5 hL (fit_mn HJ2.out.fit) (fit_vn HJ2.out.fit) (.slice (some ⟨g, 0, none⟩) (szC L) (szC L)) cc (Bk.bytes (cap := szC L) ((hy.block g (Array.getElem?_eq_some_iff.1 HKr.out).1).trans HKr.out : Bk g cc y) (szC L) HSL.out))
            rw [decide_eq_true (show ckC J2 false L = 0 ∧ pkB J2 L L.length = cc from ⟨HkF.out, (pk_all (fit_vn HJ2.out.fit) HkF.out).trans HBA.out.2⟩)] at HSm
            go_upto_region 20 with fail
            go_region_with (first | (go_at_call 9; refine (HBr.out.own HWS.out hL (by exact below_self wr)).mono ?_; rintro e w8 ⟨x8, rfl, hW8, b8, hx8⟩; have b8' : Below wr.heap.size wr w8 := ⟨b8.os, b8.tape, b8.output, b8.size, b8.block⟩; have c8 := (HBr.out.next b8').cY) | (go_at_call 13; refine (HSm.out w8 b8' x8 hW8).mono ?_; rintro e w9 ⟨rfl, b9⟩; have hLz := ((HBr.out.next b8').next b9).lives) | (go_at_call 7; refine hLz.mono ?_; rintro e w10 ⟨rfl, B10⟩))
            all_goals
              go_wp2
              go_ret
              exact ⟨rfl, B10⟩
      · have HLv := fun y (hy : Below w6.heap.size w6 y) => (HB6.out.next hy).lives
        generalize ckC I true L = CC at *
        have dc : ((CC : Int) != 0) = true := by simp; omega
        go_wp2_with (first | (go_at_call 11; refine hCk.mono ?_; rintro e w7 ⟨rfl, b7⟩) | (go_at_call 7; refine (HLv _ b7).mono ?_; rintro e w8 ⟨rfl, B8⟩))
        go_ret
        exact ⟨rfl, B8⟩
    · go_region_with (first | (go_at_call 9; refine (HB4.out.own HWS.out hL (by exact below_self w4)).mono ?_; rintro e w5 ⟨x5, rfl, hW5, b5, _⟩; have b5' : Below w4.heap.size w4 w5 := ⟨b5.os, b5.tape, b5.output, b5.size, b5.block⟩; have c5 := (HB4.out.next b5').cX.1) | (go_at_call 10; refine (pdPack_bad (HB4.out.next b5').dx x5 L hW5 hL hk).mono ?_; rintro e w6 ⟨rfl, b6⟩))
      all_goals
        have HLv := ((HB4.out.next b5').next b6).lives
        go_wp2_with (go_at_call 7; refine HLv.mono ?_; rintro e w8 ⟨rfl, B8⟩)
        go_ret
        exact ⟨rfl, B8⟩
  · obtain rfl := hbad hc
    have HLv := lives13_any w2
    clear hbad hgood
    go_wp2_with (go_at_call 7; refine HLv.mono ?_; rintro e w8 ⟨rfl, B8⟩)
    go_ret
    exact ⟨rfl, B2.trans (B8.mono B2.size)⟩
end Go.Proofs.Ythalhidebkhclaa
namespace Go.Proofs.Ythalhidebkhclaa
open Go.ChangeShapes Go.WideShapes Go.ChangeAt Go.RowKit Go.Proofs.Ty
open Go.ChangeMaps (open_string shut_string)
set_option linter.unusedVariables false
set_option maxRecDepth 1000000

set_option maxRecDepth 100000 in
theorem pdomapBack_lifted (os : Os) (started : os.Started) (H : Type) (enc : TypeId × Value → H) :
    ReturnsInHanded {} Try.checked os 3 .any (Rows.pdomapBackSpec.pre6 enc Try.prog Try.f3 Rows.pdomapBackRow.domain false) (Rows.pdomapBackSpec.post enc Try.prog Try.f3 false true false false) := by
  refine returnsInHanded_of_change_sized (C := Try.checked) own started (by kernel_rfl) Try.func3
    (ChangeSpec.witness6 (enc := enc) (C := Try.checked) false ⟨#[], #[.slice none 0 0, .slice none 0 0, .slice none 0 0], []⟩ 8 (by kernel_rfl) (by kernel_rfl) (by kernel_rfl) (by kernel_rfl)) ?_
  intro W base args ds gs before hval0 hW hcnd hsz _
  have hval : ∀ (j : Nat) t v, Try.f3.params[j]? = some t → args[j]? = some v → Value.okWide Try.prog W .any base t v := hval0
  have hW' := hW
  obtain ⟨p, q, hA0, hV, rfl, hfz, hnd⟩ := hW
  have hA : DataW.TrodAll enc Try.prog W 0 (fun _ => true) true Try.f3.params.toList args.toList ds p := hA0
  rw [Try.params3] at hA hval hsz
  obtain ⟨v0, vs0, d0, ds0, p0, q0, hargs, rfl, rfl, h0, r0⟩ := trodAll_cons hA
  obtain ⟨v1, vs1, d1, ds1, p1, q1, rfl, rfl, rfl, h1, r1⟩ := trodAll_cons r0
  obtain ⟨v2, vs2, d2, ds2, p2, q2, rfl, rfl, rfl, h2, r2⟩ := trodAll_cons r1
  obtain ⟨rfl, rfl, rfl⟩ := trodAll_nil r2
  obtain rfl : args = #[v0, v1, v2] := by cases args; simp_all
  obtain ⟨rfl, rfl⟩ := trodVars_none hV
  have lt0 : ∀ x ∈ p0, x.block < W.heap.size := by obtain ⟨m, hm⟩ := h0; exact DataW.trod_lt m _ _ _ hm
  obtain ⟨l0, w0, e0⟩ := open_entries (hval 0 22 v0 rfl rfl) h0 lt0
  have z0 := size_entries (j := 0) hsz rfl rfl e0
  have lt1 : ∀ x ∈ p1, x.block < W.heap.size := by obtain ⟨m, hm⟩ := h1; exact DataW.trod_lt m _ _ _ hm
  obtain ⟨l1, w1, e1⟩ := open_slots (hval 1 23 v1 rfl rfl) h1 lt1
  have z1 := size_slots (j := 1) hsz rfl rfl e1
  have lt2 : ∀ x ∈ p2, x.block < W.heap.size := by obtain ⟨m, hm⟩ := h2; exact DataW.trod_lt m _ _ _ hm
  obtain ⟨l2, w2, e2⟩ := open_bytesC (hval 2 24 v2 rfl rfl) h2 lt2
  have z2 := size_bytes (j := 2) hsz rfl rfl e2
  clear hA0 hval0
  refine (pbak_walk v0 l0 v1 l1 v2 l2 W w0 z0 w1.1 z1 w2.1 w2.2 z2).mono fun e W' ⟨he, bel⟩ => ?_
  subst he
  exact ⟨_, rfl, _, _, _, [], _, [], hW', trodAll_mk1 (shut_bool Try.underlying4 _), (trodAll_cons_mk (Below.trod laidOut (by kernel_rfl) (of_decide_eq_true (by kernel_rfl)) h0 bel lt0) (trodAll_cons_mk (Below.trod laidOut (by kernel_rfl) (of_decide_eq_true (by kernel_rfl)) h1 bel lt1) (trodAll_cons_mk (Below.trod laidOut (by kernel_rfl) (of_decide_eq_true (by kernel_rfl)) h2 bel lt2) trodAll_mk0))), rfl, bel.frame _, fun h => by cases h⟩

theorem pdomapBack_holds : Rows.PdomapBackSaid :=
  OpenClaim.holds_of_wide 3 Try.f3 rfl rfl rfl rfl rfl rfl rfl ⟨rfl, rfl, rfl, rfl, rfl⟩ rfl rfl rfl rfl rfl (by kernel_rfl) Try.func3 (by kernel_rfl)
    (of_decide_eq_true (by kernel_rfl)) (by unfold Func.isWrapper; first | (rw [if_pos (by decide +kernel)]; kernel_rfl) | (rw [if_neg (by decide +kernel)]; exact ⟨rfl, rfl⟩))
    (fun os started H enc _ => pdomapBack_lifted os started H enc)
end Go.Proofs.Ythalhidebkhclaa
