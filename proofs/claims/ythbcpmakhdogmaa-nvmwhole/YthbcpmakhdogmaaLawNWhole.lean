/- The law NvmWhole returns true whatever comes in. -/
import Derived.Test.YthbcpmakhdogmaaLawNCuts
import Derived.Test.YthbcpmakhdogmaaNvP
namespace Go.Proofs.Nv
/-- What stands between two Saves. -/
structure Kw (d : Ch) (an : Bool) (kl : List UInt8) : Prop where
  ok : d.Ok
  live : d.dead = false
  left : d.left = -1
  room : d.room = 72
  kept : d.kept.2 = kl
  any : an = (d.kept.1 != 0)
  no : an = false → kl = []
theorem Kw.mk' {d : Ch} {an : Bool} {kl : List UInt8} (ok : d.Ok) (room : d.room = 72) (kept : d.kept.2 = kl) (any : an = (d.kept.1 != 0)) : Kw d.power an kl := by
  refine ⟨Ch.power_ok ok, rfl, rfl, room, by rw [kept_power]; exact kept, by rw [kept_power]; exact any, fun h => ?_⟩
  subst kept
  have h0 : d.kept.1 = 0 := by rw [h] at any; simpa using any.symm
  unfold Ch.kept at *
  split at h0
  · rename_i hh; rw [if_pos hh]; exact hs_snd _ _ h0
  · rename_i hh; rw [if_neg hh]; exact hs_snd _ _ h0
theorem Kw.step {d : Ch} {an : Bool} {kl : List UInt8} (h : Kw d an kl) (dd : Ch) (hdd : dd = d ∨ ∃ k : Nat, k < 256 ∧ dd = d.cut k) (b : List UInt8) :
    dd.Ok ∧ dd.room = 72 ∧ (72 < b.length → dd.save b = (dd, 2) ∧ Kw dd.power an kl) ∧ (b.length ≤ 72 → ((dd.save b).2 = 0 ∧ Kw (dd.save b).1.power true b) ∨ ((dd.save b).2 = 6 ∧ (dd.save b).1.dead = true ∧ Kw (dd.save b).1.power an kl)) := by
  have hd : dd.Ok ∧ dd.dead = false ∧ dd.room = 72 ∧ dd.kept = d.kept := by
    rcases hdd with rfl | ⟨k, hk, rfl⟩
    · exact ⟨h.ok, h.live, h.room, rfl⟩
    · exact ⟨Ch.cut_ok h.ok (by omega), h.live, h.room, kept_cut _ _⟩
  obtain ⟨h1, h2, h3, h4⟩ := hd
  refine ⟨h1, h3, fun hl => ⟨save_long b (by omega), Kw.mk' h1 h3 (by rw [h4]; exact h.kept) (by rw [h4]; exact h.any)⟩, fun hl => ?_⟩
  obtain ⟨g1, g2⟩ := save_spec h1 b (by omega) h2
  by_cases hc : dd.left < 0 ∨ ((2 + nch b : Nat) : Int) ≤ dd.left
  · obtain ⟨a1, a2, a3, a4⟩ := g1 hc
    exact .inl ⟨a1, Kw.mk' (Ch.save_ok h1 b) ((save_room _ _).trans h3) (by rw [a3]) (by rw [a3]; have := nxt_pos dd.kept.1; simp; omega)⟩
  · obtain ⟨a1, a2, a3⟩ := g2 hc
    exact .inr ⟨a1, a2, Kw.mk' (Ch.save_ok h1 b) ((save_room _ _).trans h3) (by rw [a3, h4]; exact h.kept) (by rw [a3, h4]; exact h.any)⟩
end Go.Proofs.Nv
namespace Go.Proofs.Ythbcpmakhdogmaa
open Go.RowKit Go.Shelf Go.Proofs.Ty Go.Proofs.Nv Go.Proofs.Bits
set_option linter.unusedVariables false
set_option maxRecDepth 1000000
set_option linter.unusedSimpArgs false
theorem Lw.drawn {w W : World} {C P : Nat} {d : Ch} (h : Lw w C P d W) (n : Nat) : Lw w C P d (W.drewN n) := ⟨h.chip.drawn n, bdr h.old n, h.c1, h.p1⟩
set_option maxHeartbeats 64000000 in
theorem nwhole_walk (vs vc : Value) (ls : List Vb) (lc : List UInt8) (w : World) (hS : WdN 1 vbC w vs ls) (hBs : ∀ a ∈ ls, Bytes w a.1 a.2 ∧ a.2.length ≤ 140737488351232) (hlS : ls.length ≤ 5864062014634) (hC : Bytes w vc lc) (hlc : lc.length ≤ 140737488351232) :
    Calls Try.prog 4 #[vs, vc] w fun e w' => e = .returned (.bool true) ∧ Below w.heap.size w w' := by
  have HLV := lives9_any
  obtain ⟨asv, cs, rfl⟩ := hS.shape
  obtain ⟨ac, cc, rfl⟩ := bytes_shapeN hC
  have HSS := hidOf hS
  have HBS := hidOf hBs
  have HCC := hidOf hC
  have hN := New_ok 20 (by omega) (by omega) w
  have HK0 : Hid (Kw (Ch.new 20) false []) := ⟨Ch.new_ok (by omega) (by omega), rfl, rfl, rfl, by rw [new_kept (by omega)], by rw [new_kept (by omega)]; rfl, fun _ => rfl⟩
  generalize Ch.new 20 = d0 at *
  obtain ⟨ns, hns⟩ : ∃ n, ls.length = n := ⟨_, rfl⟩
  obtain ⟨nc, hnc⟩ : ∃ n, lc.length = n := ⟨_, rfl⟩
  have HNS := hidOf hns
  have HNC := hidOf hnc
  rw [hns] at hlS HSS ⊢
  rw [hnc] at hlc HCC ⊢
  clear hS hBs hC hns hnc
  go_enter Try.func4, Try.ntmps4
  go_upto_region 5 with (first | (go_at_call 8; refine hN.mono ?_; clear hN; rintro e w1 ⟨C, P, rfl, h1⟩; have HL1 := hidOf h1; have HLA := hidOf (h1.below ((Below.refl _ w1).alloc (Nat.le_refl _) (.cells #[] 5))); clear h1))
  obtain ⟨w2, hw2⟩ : ∃ x, w1.alloc (.cells #[] 5) = x := ⟨_, rfl⟩
  try rw [hw2]
  rw [hw2] at HLA
  clear hw2 HL1
  go_wp2
  go_loopw [7, 8, 9] (fun kv av i wr => ∃ (k : Nat) (d : Ch) (an : Bool) (kl : List UInt8) (ak : Option Addr) (ck : Nat), k ≤ ns ∧ i = .int .i64 k ∧ av = .bool an ∧ kv = .slice ak kl.length ck ∧ Hid (∀ x, Below w.heap.size w x → Bytes x (.slice ak kl.length ck) kl) ∧ Hid (Kw d an kl) ∧ Hid (Lw w C P d wr)) (fun _ _ i _ => ns - (intOf i).toNat)
  case atStart => exact ⟨0, d0, false, [], _, _, Nat.zero_le _, rfl, rfl, rfl, fun x _ => ⟨_, _, rfl, (fun h => by cases h), fun k hk => by simp at hk⟩, HK0, HLA⟩
  case round =>
    clear HLA HK0
    obtain ⟨k, d, an, kl, ak, ck, hk, rfl, rfl, rfl, HVK, HK, HW⟩ := hrel
    by_cases hkn : k < ns
    · have hkl : k < ls.length := by rw [HNS.out]; exact hkn
      obtain ⟨hbx, hlx⟩ := HBS.out ls[k] (List.getElem_mem hkl)
      obtain ⟨b, off, hcellS⟩ : ∃ b off, asv = some ⟨b, off, none⟩ ∧ b < w.heap.size ∧ w.cell? ⟨b, off + k, none⟩ = some ls[k].1 := by
        obtain ⟨ao', cap', hv, _, hc⟩ := HSS.out
        obtain ⟨b, off, ha, hb, hr⟩ := hc k hkl
        injection hv with e1 _ _
        refine ⟨b, off, by rw [e1, ha], hb, ?_⟩
        have := hr 0 _ rfl
        rw [Nat.mul_one, Nat.add_zero] at this
        exact this
      obtain ⟨hao, hblt, hcell⟩ := hcellS
      obtain ⟨X, hX⟩ : ∃ X, ls[k] = X := ⟨_, rfl⟩
      rw [hX] at hbx hlx hcell
      obtain ⟨xv, lk⟩ := X
      simp only at hbx hlx hcell
      obtain ⟨ax, cx, rfl⟩ := bytes_shapeN hbx
      subst hao
      have HBX := hidOf hbx
      have HLX : Hid (lk.length ≤ 140737488355328) := by show _ ≤ _; omega
      obtain ⟨nx, hnx⟩ : ∃ n, lk.length = n := ⟨_, rfl⟩
      have HNX := hidOf hnx
      rw [hnx] at hlx hcell HBX
      have HCE : Hid (∀ x, Below w.heap.size w x → x.cell? ⟨b, off + k, none⟩ = some (.slice ax nx cx)) := fun x hx => (hx.cell (p := ⟨b, off + k, none⟩) hblt).trans hcell
      have HTX : Hid (∀ x, Below w.heap.size w x → (convert 30 9 (.slice ax nx cx)).run Try.prog x = .ok (.string ⟨lk.toArray⟩) x) := fun x hx => (HBX.out.below hx).text
      have HTK : Hid (∀ x, Below w.heap.size w x → (convert 30 9 (.slice ak kl.length ck)).run Try.prog x = .ok (.string ⟨kl.toArray⟩) x) := fun x hx => (HVK.out x hx).text
      have HVX : Hid (∀ x, Below w.heap.size w x → Bytes x (.slice ax lk.length cx) lk) := by rw [HNX.out]; exact fun x hx => HBX.out.below hx
      have HSA : Hid (∀ (dd : Ch) x, Lw w C P dd x → ∃ WA qA, x.alloc (.cells #[] 5) = WA ∧ x.heap.size = qA ∧ WA.ownsRow qA 5 1 (.slice (some ⟨qA, 0, none⟩) 0 0) ([] : List UInt8).length (Lib.byteCells []) ∧ Bytes WA (.slice ax nx cx) lk ∧ qA ≤ WA.heap.size ∧ WA.cell? ⟨b, off + k, none⟩ = some (.slice ax nx cx) ∧ Hid (∀ v1 w2, w2.ownsRow qA 5 1 v1 ([] ++ lk).length (Lib.byteCells ([] ++ lk)) → WA.grownBy w2 (Value.slice (some ⟨qA, 0, none⟩) 0 0).ownBlock → Calls Try.prog 12 #[.pointer (some ⟨C, 0, none⟩), v1] w2 fun e w' => e = .returned (.int .i64 (dd.save lk).2) ∧ Lw w C P (dd.save lk).1 w')) := fun dd x hx => by
        obtain ⟨WA, qA, h1, h2, h3, h4, h5, h6⟩ := hx.app (HBX.out.below hx.old) HLX.out
        refine ⟨WA, qA, h1, h2, h3, h4, h5, HCE.out WA ?_, h6⟩
        rw [← h1]
        exact hx.old.alloc hx.old.size _
      have HLDx : Hid (∀ (f : Ch) (an2 : Bool) (kl2 : List UInt8) x, Kw f an2 kl2 → Lw w C P f x → Calls Try.prog 10 #[.pointer (some ⟨C, 0, none⟩)] x fun e w' => ∃ v, e = .returned (.tuple #[v, .bool an2]) ∧ Bytes w' v kl2 ∧ Lw w C P f w') := fun f an2 kl2 x hf hx => by
        have := load_lw hx
        rw [hf.kept, ← hf.any] at this
        exact this.mono fun e w' ⟨v, he, hv, hw, _⟩ => ⟨v, he, hv, hw⟩
      have hcW := HCE.out wr HW.out.old
      clear hX hbx hcell hnx hkl
      by_cases hnc0 : 0 < nc
      · have hkm : k % nc < nc := Nat.mod_lt _ hnc0
        have hkm' : k % nc < lc.length := by rw [HNC.out]; exact hkm
        have hdc : decide ((0 : Int) < (nc : Int)) = true := by simp; omega
        obtain ⟨bc, oc, hcs⟩ : ∃ bc oc, ac = some ⟨bc, oc, none⟩ ∧ bc < w.heap.size ∧ w.cell? ⟨bc, oc + k % nc, none⟩ = some (.int .u8 (lc[k % nc].toNat)) := by
          obtain ⟨ao', cap', hv, _, hc⟩ := HCC.out
          obtain ⟨b', off', ha, hb', hcell'⟩ := hc (k % nc) hkm'
          injection hv with e1 _ _
          exact ⟨b', off', by rw [e1, ha], hb', hcell'⟩
        obtain ⟨rfl, hbc, hcc⟩ := hcs
        have hcu := lc[k % nc].toNat_lt
        obtain ⟨cu, hcue⟩ : ∃ cu, lc[k % nc].toNat = cu := ⟨_, rfl⟩
        rw [hcue] at hcc hcu
        have hccw : wr.cell? ⟨bc, oc + k % nc, none⟩ = some (.int .u8 (cu : Int)) := (HW.out.old.cell (p := ⟨bc, oc + k % nc, none⟩) hbc).trans hcc
        have hmod : (k : Int) % (nc : Int) = ((k % nc : Nat) : Int) := by omega
        obtain ⟨km, hkme⟩ : ∃ m, k % nc = m := ⟨_, rfl⟩
        rw [hkme] at hccw hmod hkm
        clear hcue hcc hkm' hkme
        by_cases hc12 : cu < 12
        · have hct := cut_lw HW.out (cu : Int) (by omega) (by omega)
          have hd12 : decide ((cu : Int) < 12) = true := by simp; omega
          have HST := hidOf (HK.out.step (d.cut cu) (.inr ⟨cu, by omega, rfl⟩) lk)
          obtain ⟨hokd, hrmd, hlong, hfit⟩ := HST.out
          by_cases hl72 : 72 < lk.length
          · obtain ⟨hes, hkf⟩ := hlong hl72
            have HKF := hidOf hkf
            have hnx72 : 72 < nx := by rw [← HNX.out]; exact hl72
            have hdl : decide ((nx : Int) ≤ 72) = false := by simp; omega
            clear hlong hfit hkf
            go_upto_region 12 with (first | (go_at_call 17; refine hct.mono ?_; clear hct; rintro e w4 ⟨⟨v4, rfl⟩, h4⟩; obtain ⟨WA, qA, hWA, hqA, hoA, hbA, hsA, hcA, HSV⟩ := HSA.out _ w4 h4; clear h4) | (at_builtin; refine append_bytes rfl _ _ rfl qA _ [] rfl hoA _ lk rfl hbA (by have := HLX.out; simp; omega) hsA ?_; intro v1 w5 ho hgr; have hsv := HSV.out v1 w5 ho hgr; clear HSV ho hgr hoA hbA hsA) | (go_at_call 12; rw [hes] at hsv; refine hsv.mono ?_; clear hsv; rintro e w6 ⟨rfl, h6⟩; have HL6 := hidOf h6; have hc6 := HCE.out w6 h6.old; have hpw := power_lw h6; clear h6))
            have hrr : ∀ n, Calls Try.prog 11 #[.pointer (some ⟨C, 0, none⟩)] (w6.drewN n) (fun e w' => e = .returned (.int .i64 72) ∧ w' = w6.drewN n) := fun n => by
              have := Room_any (HL6.out.drawn n).chip
              rw [hrmd] at this
              exact this
            have HPW : Hid (∀ n, Calls Try.prog 19 #[.pointer (some ⟨C, 0, none⟩)] (w6.drewN n) _) := fun n => power_lw (HL6.out.drawn n)
            clear hpw
            go_quiet (first | (go_at_call 11; refine Calls.quiet_of_same (hrr _)))
            have hpw := HPW.out nq
            clear HPW
            cases an
            all_goals
              first | (obtain rfl : kl = [] := HKF.out.no rfl) | skip
              go_wp2_with (first | (go_at_call 19; refine hpw.mono ?_; clear hpw; rintro e w7 ⟨⟨v7, rfl⟩, h7⟩; have hld := HLDx.out _ _ _ w7 HKF.out h7; clear h7) | (go_at_call 10; refine hld.mono ?_; clear hld; rintro e w8 ⟨v8, rfl, hv8, h8⟩; have htx := hv8.text; have htk := HTK.out w8 h8.old; have HL8 := hidOf h8; obtain ⟨av8, cv8, hav⟩ := bytes_shapeN hv8; subst hav; try simp only [List.length_nil] at htx htk; clear hv8 h8))
              go_roundw
              case rel => exact ⟨k + 1, _, _, _, _, _, by omega, by go_num, rfl, (by first | rfl | (rw [HNX.out])), HVK, HKF, HL8⟩
              case measure => simp [intOf]; omega
          · have hnx72 : ¬ 72 < nx := by rw [← HNX.out]; exact hl72
            have hdl : decide ((nx : Int) ≤ 72) = true := by simp; omega
            rcases hfit (by omega) with ⟨hes, hkf⟩ | ⟨hes, hde, hkf⟩
            · have HKF := hidOf hkf
              clear hlong hfit hkf
              go_wp2_with (first | (go_at_call 17; refine hct.mono ?_; clear hct; rintro e w4 ⟨⟨v4, rfl⟩, h4⟩; obtain ⟨WA, qA, hWA, hqA, hoA, hbA, hsA, hcA, HSV⟩ := HSA.out _ w4 h4; clear h4) | (at_builtin; refine append_bytes rfl _ _ rfl qA _ [] rfl hoA _ lk rfl hbA (by have := HLX.out; simp; omega) hsA ?_; intro v1 w5 ho hgr; have hsv := HSV.out v1 w5 ho hgr; clear HSV ho hgr hoA hbA hsA) | (go_at_call 12; rw [hes] at hsv; refine hsv.mono ?_; clear hsv; rintro e w6 ⟨rfl, h6⟩; have HL6 := hidOf h6; have hc6 := HCE.out w6 h6.old; have hpw := power_lw h6; clear h6) | (go_at_call 19; refine hpw.mono ?_; clear hpw; rintro e w7 ⟨⟨v7, rfl⟩, h7⟩; have hld := HLDx.out _ _ _ w7 HKF.out h7; clear h7) | (go_at_call 10; refine hld.mono ?_; clear hld; rintro e w8 ⟨v8, rfl, hv8, h8⟩; have htx := hv8.text; have htk := HTX.out w8 h8.old; have HL8 := hidOf h8; obtain ⟨av8, cv8, hav⟩ := bytes_shapeN hv8; subst hav; try simp only [List.length_nil] at htx htk; clear hv8 h8))
              go_roundw
              case rel => exact ⟨k + 1, _, true, lk, ax, cx, by omega, by go_num, rfl, (by first | rfl | (rw [HNX.out])), HVX, HKF, HL8⟩
              case measure => simp [intOf]; omega
            · have HKF := hidOf hkf
              have HDE := hidOf hde
              have HRM6 : Hid (_ = 72) := (save_room _ lk).trans hrmd
              clear hlong hfit hkf hde
              go_upto_region 12 with (first | (go_at_call 17; refine hct.mono ?_; clear hct; rintro e w4 ⟨⟨v4, rfl⟩, h4⟩; obtain ⟨WA, qA, hWA, hqA, hoA, hbA, hsA, hcA, HSV⟩ := HSA.out _ w4 h4; clear h4) | (at_builtin; refine append_bytes rfl _ _ rfl qA _ [] rfl hoA _ lk rfl hbA (by have := HLX.out; simp; omega) hsA ?_; intro v1 w5 ho hgr; have hsv := HSV.out v1 w5 ho hgr; clear HSV ho hgr hoA hbA hsA) | (go_at_call 12; rw [hes] at hsv; refine hsv.mono ?_; clear hsv; rintro e w6 ⟨rfl, h6⟩; have HL6 := hidOf h6; have hc6 := HCE.out w6 h6.old; have hpw := power_lw h6; clear h6))
              have hrr : ∀ n, Calls Try.prog 11 #[.pointer (some ⟨C, 0, none⟩)] (w6.drewN n) (fun e w' => e = .returned (.int .i64 72) ∧ w' = w6.drewN n) := fun n => by
                have := Room_any (HL6.out.drawn n).chip
                rw [HRM6.out] at this
                exact this
              have hdd : ∀ n, Calls Try.prog 18 #[.pointer (some ⟨C, 0, none⟩)] (w6.drewN n) (fun e w' => e = .returned (.bool true) ∧ w' = w6.drewN n) := fun n => by
                have := Dead_any (HL6.out.drawn n).chip
                rw [HDE.out] at this
                exact this
              have HPW : Hid (∀ n, Calls Try.prog 19 #[.pointer (some ⟨C, 0, none⟩)] (w6.drewN n) _) := fun n => power_lw (HL6.out.drawn n)
              clear hpw
              go_quiet (first | (go_at_call 11; refine Calls.quiet_of_same (hrr _)) | (go_at_call 18; refine Calls.quiet_of_same (hdd _)))
              have hpw := HPW.out nq
              clear HPW
              cases an
              all_goals
                first | (obtain rfl : kl = [] := HKF.out.no rfl) | skip
                go_wp2_with (first | (go_at_call 19; refine hpw.mono ?_; clear hpw; rintro e w7 ⟨⟨v7, rfl⟩, h7⟩; have hld := HLDx.out _ _ _ w7 HKF.out h7; clear h7) | (go_at_call 10; refine hld.mono ?_; clear hld; rintro e w8 ⟨v8, rfl, hv8, h8⟩; have htx := hv8.text; have htk := HTK.out w8 h8.old; have HL8 := hidOf h8; obtain ⟨av8, cv8, hav⟩ := bytes_shapeN hv8; subst hav; try simp only [List.length_nil] at htx htk; clear hv8 h8))
                go_roundw
                case rel => exact ⟨k + 1, _, _, _, _, _, by omega, by go_num, rfl, (by first | rfl | (rw [HNX.out])), HVK, HKF, HL8⟩
                case measure => simp [intOf]; omega
        · have hd12 : decide ((cu : Int) < 12) = false := by simp; omega
          obtain ⟨WA, qA, hWA, hqA, hoA, hbA, hsA, hcA, HSV⟩ := HSA.out d wr HW.out
          have HST := hidOf (HK.out.step d (.inl rfl) lk)
          obtain ⟨hokd, hrmd, hlong, hfit⟩ := HST.out
          by_cases hl72 : 72 < lk.length
          · obtain ⟨hes, hkf⟩ := hlong hl72
            have HKF := hidOf hkf
            have hnx72 : 72 < nx := by rw [← HNX.out]; exact hl72
            have hdl : decide ((nx : Int) ≤ 72) = false := by simp; omega
            clear hlong hfit hkf
            go_upto_region 12 with (first | (at_builtin; refine append_bytes rfl _ _ rfl qA _ [] rfl hoA _ lk rfl hbA (by have := HLX.out; simp; omega) hsA ?_; intro v1 w5 ho hgr; have hsv := HSV.out v1 w5 ho hgr; clear HSV ho hgr hoA hbA hsA) | (go_at_call 12; rw [hes] at hsv; refine hsv.mono ?_; clear hsv; rintro e w6 ⟨rfl, h6⟩; have HL6 := hidOf h6; have hc6 := HCE.out w6 h6.old; have hpw := power_lw h6; clear h6))
            have hrr : ∀ n, Calls Try.prog 11 #[.pointer (some ⟨C, 0, none⟩)] (w6.drewN n) (fun e w' => e = .returned (.int .i64 72) ∧ w' = w6.drewN n) := fun n => by
              have := Room_any (HL6.out.drawn n).chip
              rw [hrmd] at this
              exact this
            have HPW : Hid (∀ n, Calls Try.prog 19 #[.pointer (some ⟨C, 0, none⟩)] (w6.drewN n) _) := fun n => power_lw (HL6.out.drawn n)
            clear hpw
            go_quiet (first | (go_at_call 11; refine Calls.quiet_of_same (hrr _)))
            have hpw := HPW.out nq
            clear HPW
            cases an
            all_goals
              first | (obtain rfl : kl = [] := HKF.out.no rfl) | skip
              go_wp2_with (first | (go_at_call 19; refine hpw.mono ?_; clear hpw; rintro e w7 ⟨⟨v7, rfl⟩, h7⟩; have hld := HLDx.out _ _ _ w7 HKF.out h7; clear h7) | (go_at_call 10; refine hld.mono ?_; clear hld; rintro e w8 ⟨v8, rfl, hv8, h8⟩; have htx := hv8.text; have htk := HTK.out w8 h8.old; have HL8 := hidOf h8; obtain ⟨av8, cv8, hav⟩ := bytes_shapeN hv8; subst hav; try simp only [List.length_nil] at htx htk; clear hv8 h8))
              go_roundw
              case rel => exact ⟨k + 1, _, _, _, _, _, by omega, by go_num, rfl, (by first | rfl | (rw [HNX.out])), HVK, HKF, HL8⟩
              case measure => simp [intOf]; omega
          · have hnx72 : ¬ 72 < nx := by rw [← HNX.out]; exact hl72
            have hdl : decide ((nx : Int) ≤ 72) = true := by simp; omega
            rcases hfit (by omega) with ⟨hes, hkf⟩ | ⟨hes, hde, hkf⟩
            · have HKF := hidOf hkf
              clear hlong hfit hkf
              go_wp2_with (first | (at_builtin; refine append_bytes rfl _ _ rfl qA _ [] rfl hoA _ lk rfl hbA (by have := HLX.out; simp; omega) hsA ?_; intro v1 w5 ho hgr; have hsv := HSV.out v1 w5 ho hgr; clear HSV ho hgr hoA hbA hsA) | (go_at_call 12; rw [hes] at hsv; refine hsv.mono ?_; clear hsv; rintro e w6 ⟨rfl, h6⟩; have HL6 := hidOf h6; have hc6 := HCE.out w6 h6.old; have hpw := power_lw h6; clear h6) | (go_at_call 19; refine hpw.mono ?_; clear hpw; rintro e w7 ⟨⟨v7, rfl⟩, h7⟩; have hld := HLDx.out _ _ _ w7 HKF.out h7; clear h7) | (go_at_call 10; refine hld.mono ?_; clear hld; rintro e w8 ⟨v8, rfl, hv8, h8⟩; have htx := hv8.text; have htk := HTX.out w8 h8.old; have HL8 := hidOf h8; obtain ⟨av8, cv8, hav⟩ := bytes_shapeN hv8; subst hav; try simp only [List.length_nil] at htx htk; clear hv8 h8))
              go_roundw
              case rel => exact ⟨k + 1, _, true, lk, ax, cx, by omega, by go_num, rfl, (by first | rfl | (rw [HNX.out])), HVX, HKF, HL8⟩
              case measure => simp [intOf]; omega
            · have HKF := hidOf hkf
              have HDE := hidOf hde
              have HRM6 : Hid (_ = 72) := (save_room _ lk).trans hrmd
              clear hlong hfit hkf hde
              go_upto_region 12 with (first | (at_builtin; refine append_bytes rfl _ _ rfl qA _ [] rfl hoA _ lk rfl hbA (by have := HLX.out; simp; omega) hsA ?_; intro v1 w5 ho hgr; have hsv := HSV.out v1 w5 ho hgr; clear HSV ho hgr hoA hbA hsA) | (go_at_call 12; rw [hes] at hsv; refine hsv.mono ?_; clear hsv; rintro e w6 ⟨rfl, h6⟩; have HL6 := hidOf h6; have hc6 := HCE.out w6 h6.old; have hpw := power_lw h6; clear h6))
              have hrr : ∀ n, Calls Try.prog 11 #[.pointer (some ⟨C, 0, none⟩)] (w6.drewN n) (fun e w' => e = .returned (.int .i64 72) ∧ w' = w6.drewN n) := fun n => by
                have := Room_any (HL6.out.drawn n).chip
                rw [HRM6.out] at this
                exact this
              have hdd : ∀ n, Calls Try.prog 18 #[.pointer (some ⟨C, 0, none⟩)] (w6.drewN n) (fun e w' => e = .returned (.bool true) ∧ w' = w6.drewN n) := fun n => by
                have := Dead_any (HL6.out.drawn n).chip
                rw [HDE.out] at this
                exact this
              have HPW : Hid (∀ n, Calls Try.prog 19 #[.pointer (some ⟨C, 0, none⟩)] (w6.drewN n) _) := fun n => power_lw (HL6.out.drawn n)
              clear hpw
              go_quiet (first | (go_at_call 11; refine Calls.quiet_of_same (hrr _)) | (go_at_call 18; refine Calls.quiet_of_same (hdd _)))
              have hpw := HPW.out nq
              clear HPW
              cases an
              all_goals
                first | (obtain rfl : kl = [] := HKF.out.no rfl) | skip
                go_wp2_with (first | (go_at_call 19; refine hpw.mono ?_; clear hpw; rintro e w7 ⟨⟨v7, rfl⟩, h7⟩; have hld := HLDx.out _ _ _ w7 HKF.out h7; clear h7) | (go_at_call 10; refine hld.mono ?_; clear hld; rintro e w8 ⟨v8, rfl, hv8, h8⟩; have htx := hv8.text; have htk := HTK.out w8 h8.old; have HL8 := hidOf h8; obtain ⟨av8, cv8, hav⟩ := bytes_shapeN hv8; subst hav; try simp only [List.length_nil] at htx htk; clear hv8 h8))
                go_roundw
                case rel => exact ⟨k + 1, _, _, _, _, _, by omega, by go_num, rfl, (by first | rfl | (rw [HNX.out])), HVK, HKF, HL8⟩
                case measure => simp [intOf]; omega
      · have hdc : decide ((0 : Int) < (nc : Int)) = false := by simp; omega
        obtain rfl : nc = 0 := by omega
        obtain ⟨WA, qA, hWA, hqA, hoA, hbA, hsA, hcA, HSV⟩ := HSA.out d wr HW.out
        have HST := hidOf (HK.out.step d (.inl rfl) lk)
        obtain ⟨hokd, hrmd, hlong, hfit⟩ := HST.out
        by_cases hl72 : 72 < lk.length
        · obtain ⟨hes, hkf⟩ := hlong hl72
          have HKF := hidOf hkf
          have hnx72 : 72 < nx := by rw [← HNX.out]; exact hl72
          have hdl : decide ((nx : Int) ≤ 72) = false := by simp; omega
          clear hlong hfit hkf
          go_upto_region 12 with (first | (at_builtin; refine append_bytes rfl _ _ rfl qA _ [] rfl hoA _ lk rfl hbA (by have := HLX.out; simp; omega) hsA ?_; intro v1 w5 ho hgr; have hsv := HSV.out v1 w5 ho hgr; clear HSV ho hgr hoA hbA hsA) | (go_at_call 12; rw [hes] at hsv; refine hsv.mono ?_; clear hsv; rintro e w6 ⟨rfl, h6⟩; have HL6 := hidOf h6; have hc6 := HCE.out w6 h6.old; have hpw := power_lw h6; clear h6))
          have hrr : ∀ n, Calls Try.prog 11 #[.pointer (some ⟨C, 0, none⟩)] (w6.drewN n) (fun e w' => e = .returned (.int .i64 72) ∧ w' = w6.drewN n) := fun n => by
            have := Room_any (HL6.out.drawn n).chip
            rw [hrmd] at this
            exact this
          have HPW : Hid (∀ n, Calls Try.prog 19 #[.pointer (some ⟨C, 0, none⟩)] (w6.drewN n) _) := fun n => power_lw (HL6.out.drawn n)
          clear hpw
          go_quiet (first | (go_at_call 11; refine Calls.quiet_of_same (hrr _)))
          have hpw := HPW.out nq
          clear HPW
          cases an
          all_goals
            first | (obtain rfl : kl = [] := HKF.out.no rfl) | skip
            go_wp2_with (first | (go_at_call 19; refine hpw.mono ?_; clear hpw; rintro e w7 ⟨⟨v7, rfl⟩, h7⟩; have hld := HLDx.out _ _ _ w7 HKF.out h7; clear h7) | (go_at_call 10; refine hld.mono ?_; clear hld; rintro e w8 ⟨v8, rfl, hv8, h8⟩; have htx := hv8.text; have htk := HTK.out w8 h8.old; have HL8 := hidOf h8; obtain ⟨av8, cv8, hav⟩ := bytes_shapeN hv8; subst hav; try simp only [List.length_nil] at htx htk; clear hv8 h8))
            go_roundw
            case rel => exact ⟨k + 1, _, _, _, _, _, by omega, by go_num, rfl, (by first | rfl | (rw [HNX.out])), HVK, HKF, HL8⟩
            case measure => simp [intOf]; omega
        · have hnx72 : ¬ 72 < nx := by rw [← HNX.out]; exact hl72
          have hdl : decide ((nx : Int) ≤ 72) = true := by simp; omega
          rcases hfit (by omega) with ⟨hes, hkf⟩ | ⟨hes, hde, hkf⟩
          · have HKF := hidOf hkf
            clear hlong hfit hkf
            go_wp2_with (first | (at_builtin; refine append_bytes rfl _ _ rfl qA _ [] rfl hoA _ lk rfl hbA (by have := HLX.out; simp; omega) hsA ?_; intro v1 w5 ho hgr; have hsv := HSV.out v1 w5 ho hgr; clear HSV ho hgr hoA hbA hsA) | (go_at_call 12; rw [hes] at hsv; refine hsv.mono ?_; clear hsv; rintro e w6 ⟨rfl, h6⟩; have HL6 := hidOf h6; have hc6 := HCE.out w6 h6.old; have hpw := power_lw h6; clear h6) | (go_at_call 19; refine hpw.mono ?_; clear hpw; rintro e w7 ⟨⟨v7, rfl⟩, h7⟩; have hld := HLDx.out _ _ _ w7 HKF.out h7; clear h7) | (go_at_call 10; refine hld.mono ?_; clear hld; rintro e w8 ⟨v8, rfl, hv8, h8⟩; have htx := hv8.text; have htk := HTX.out w8 h8.old; have HL8 := hidOf h8; obtain ⟨av8, cv8, hav⟩ := bytes_shapeN hv8; subst hav; try simp only [List.length_nil] at htx htk; clear hv8 h8))
            go_roundw
            case rel => exact ⟨k + 1, _, true, lk, ax, cx, by omega, by go_num, rfl, (by first | rfl | (rw [HNX.out])), HVX, HKF, HL8⟩
            case measure => simp [intOf]; omega
          · have HKF := hidOf hkf
            have HDE := hidOf hde
            have HRM6 : Hid (_ = 72) := (save_room _ lk).trans hrmd
            clear hlong hfit hkf hde
            go_upto_region 12 with (first | (at_builtin; refine append_bytes rfl _ _ rfl qA _ [] rfl hoA _ lk rfl hbA (by have := HLX.out; simp; omega) hsA ?_; intro v1 w5 ho hgr; have hsv := HSV.out v1 w5 ho hgr; clear HSV ho hgr hoA hbA hsA) | (go_at_call 12; rw [hes] at hsv; refine hsv.mono ?_; clear hsv; rintro e w6 ⟨rfl, h6⟩; have HL6 := hidOf h6; have hc6 := HCE.out w6 h6.old; have hpw := power_lw h6; clear h6))
            have hrr : ∀ n, Calls Try.prog 11 #[.pointer (some ⟨C, 0, none⟩)] (w6.drewN n) (fun e w' => e = .returned (.int .i64 72) ∧ w' = w6.drewN n) := fun n => by
              have := Room_any (HL6.out.drawn n).chip
              rw [HRM6.out] at this
              exact this
            have hdd : ∀ n, Calls Try.prog 18 #[.pointer (some ⟨C, 0, none⟩)] (w6.drewN n) (fun e w' => e = .returned (.bool true) ∧ w' = w6.drewN n) := fun n => by
              have := Dead_any (HL6.out.drawn n).chip
              rw [HDE.out] at this
              exact this
            have HPW : Hid (∀ n, Calls Try.prog 19 #[.pointer (some ⟨C, 0, none⟩)] (w6.drewN n) _) := fun n => power_lw (HL6.out.drawn n)
            clear hpw
            go_quiet (first | (go_at_call 11; refine Calls.quiet_of_same (hrr _)) | (go_at_call 18; refine Calls.quiet_of_same (hdd _)))
            have hpw := HPW.out nq
            clear HPW
            cases an
            all_goals
              first | (obtain rfl : kl = [] := HKF.out.no rfl) | skip
              go_wp2_with (first | (go_at_call 19; refine hpw.mono ?_; clear hpw; rintro e w7 ⟨⟨v7, rfl⟩, h7⟩; have hld := HLDx.out _ _ _ w7 HKF.out h7; clear h7) | (go_at_call 10; refine hld.mono ?_; clear hld; rintro e w8 ⟨v8, rfl, hv8, h8⟩; have htx := hv8.text; have htk := HTK.out w8 h8.old; have HL8 := hidOf h8; obtain ⟨av8, cv8, hav⟩ := bytes_shapeN hv8; subst hav; try simp only [List.length_nil] at htx htk; clear hv8 h8))
              go_roundw
              case rel => exact ⟨k + 1, _, _, _, _, _, by omega, by go_num, rfl, (by first | rfl | (rw [HNX.out])), HVK, HKF, HL8⟩
              case measure => simp [intOf]; omega
    · go_wp2_with (go_at_call 14; refine (HLV _).mono ?_; rintro e w7 ⟨rfl, hb7⟩; have HO6 := hidOf (HW.out.old.trans (hb7.mono HW.out.old.size)); clear hb7)
      go_ret
      exact ⟨rfl, HO6.out⟩
end Go.Proofs.Ythbcpmakhdogmaa
