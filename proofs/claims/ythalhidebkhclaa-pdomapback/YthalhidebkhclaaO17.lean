/- Contracts: the document's Check. -/
import Derived.Test.YthalhidebkhclaaO16
namespace Go.Proofs.Ythalhidebkhclaa
open Go.RowKit Go.Proofs.Ty Go.Sort Go.Lib
set_option linter.unusedVariables false
set_option maxRecDepth 1000000
set_option linter.unusedSimpArgs false
theorem any_pl (l : List En) (e : En) (k : Nat) : (l.take k).any (fun x => x.pl == e.pl) = true ↔ ∃ j, ∃ h : j < l.length, j < k ∧ l[j].ix = e.ix ∧ l[j].sb = e.sb := by
  rw [List.any_eq_true]
  constructor
  · rintro ⟨x, hx, he⟩
    obtain ⟨j, hj, rfl⟩ := List.getElem_of_mem hx
    rw [List.length_take] at hj
    rw [List.getElem_take] at he
    have := (En.pl_iff _ _).1 (beq_iff_eq.1 he)
    exact ⟨j, by omega, by omega, this.1, this.2⟩
  · rintro ⟨j, hj, hk, h1, h2⟩
    refine ⟨l[j], ?_, beq_iff_eq.2 ((En.pl_iff _ _).2 ⟨h1, h2⟩)⟩
    rw [List.mem_take_iff_getElem]
    exact ⟨j, by omega, rfl⟩
set_option maxHeartbeats 8000000 in
theorem r8Check_any (v : Value) (l : List En) (w : World) (hW : Wide 14 enC w v l) (hn : l.length ≤ 4000000000000) :
    Calls Try.prog 29 #[v] w fun x w' => x = .returned (.int .i64 (chkL l)) ∧ Below w.heap.size w w' := by
  have HR : Hid (chkL l = if 1024 < l.length then 2 else chkG (l.take 0) (l.drop 0)) := rfl
  generalize chkL l = R at *
  obtain ⟨ao, cp, rfl, _, hc⟩ := hW
  have HC : Hid (∀ (wr : World), Below w.heap.size w wr → ∀ k (hk : k < l.length), ∃ b off, ao = some ⟨b, off, none⟩ ∧ b < w.heap.size ∧ wr.rangeAt b (off + k * 14) (enC l[k])) := fun wr hb k hk => Wide.at hc hb k hk
  clear hc
  go_enter Try.func29, Try.ntmps29
  by_cases h1 : 1024 < l.length
  · have d1 : decide ((1024 : Int) < (l.length : Int)) = true := by simp; omega
    have e1 := hidOf2 (show R = 2 by rw [HR.out, if_pos h1])
    clear HR
    go_wp2
    go_ret
    exact ⟨ret_int (by rw [e1.out]; rfl), Below.refl _ _⟩
  · have d1 : decide ((1024 : Int) < (l.length : Int)) = false := by simp; omega
    rw [if_neg h1] at HR
    have hL : l.length ≤ 1024 := by omega
    clear h1
    go_wp2
    go_loopw [3] (fun i x => ∃ k : Nat, k ≤ l.length ∧ i = .int .i64 k ∧ Hid (R = chkG (l.take k) (l.drop k)) ∧ Below w.heap.size w x) (fun i _ => l.length - (intOf i).toNat)
    case atStart => exact ⟨0, Nat.zero_le _, rfl, HR, Below.refl _ _⟩
    case round =>
      clear HR
      obtain ⟨k, hk, rfl, HR, B1⟩ := hrel
      by_cases hkl : k < l.length
      · obtain ⟨b, off, rfl, hb, hR⟩ := HC.out wr B1 k hkl
        have HS := hidOf2 (HR.out.trans (chkG_step l k hkl))
        have HA : Hid ((l.take k).any (fun x => x.pl == l[k].pl) = true ↔ ∃ j, ∃ h : j < l.length, j < k ∧ l[j].ix = l[k].ix ∧ l[j].sb = l[k].sb) := any_pl l l[k] k
        have hE := r8entry_any l[k] wr
        have HK := hidOf2 (fun x hb => HC.out x hb k hkl)
        generalize l[k] = e at *
        clear HR
        go_wp2_with (first | (refine ldE hR rfl _ rfl rfl ?_))
        refine hE.mono ?_
        rintro x w2 ⟨rfl, b2⟩
        have B2 := B1.trans (b2.mono B1.size)
        clear hE B1 b2 hR
        by_cases hcz : e.can = 0
        · rw [if_neg (by rw [hcz]; simp)] at HS
          rw [hcz]
          go_wp2
          go_loopw [5] (fun i x => ∃ j : Nat, j ≤ k ∧ i = .int .i64 j ∧ Hid (∀ m (hm : m < l.length), m < j → ¬ (l[m].ix = e.ix ∧ l[m].sb = e.sb)) ∧ Below w.heap.size w x) (fun i _ => k - (intOf i).toNat)
          case atStart => exact ⟨0, Nat.zero_le _, rfl, fun m hm h => by omega, B2⟩
          case round =>
            obtain ⟨j, hj, rfl, HJ, B3⟩ := hrel
            by_cases hjk : j < k
            · obtain ⟨b', off', he1, hb1, hR1⟩ := HC.out _ B3 j (by omega)
              obtain ⟨b2', off2', he2, hb2, hR2⟩ := HK.out _ B3
              have ha1 : b' = b ∧ off' = off := by injection he1 with h; injection h with h1 h2; exact ⟨h1.symm, h2.symm⟩
              obtain ⟨rfl, rfl⟩ := ha1
              have ha2 : b2' = b' ∧ off2' = off' := by injection he2 with h; injection h with h1 h2; exact ⟨h1.symm, h2.symm⟩
              obtain ⟨rfl, rfl⟩ := ha2
              have c0 := hR1 0 _ rfl
              have c1 := hR1 1 _ rfl
              have k0 := hR2 0 _ rfl
              have k1 := hR2 1 _ rfl
              simp only [Nat.add_zero] at c0 k0
              have HN : Hid (¬ (l[j].ix = e.ix ∧ l[j].sb = e.sb) → ∀ m (hm : m < l.length), m < j + 1 → ¬ (l[m].ix = e.ix ∧ l[m].sb = e.sb)) := by
                intro h m hm h1
                rcases Nat.lt_or_ge m j with h3 | h3
                · exact HJ.out m hm h3
                · have : m = j := by omega
                  subst this; exact h
              have HY : Hid (l[j].ix = e.ix ∧ l[j].sb = e.sb → R = 5) := fun h => HS.out.trans (if_pos (HA.out.2 ⟨j, by omega, hjk, h⟩))
              have hkl1 : k < l.length := hkl
              have hjl1 : j < l.length := by omega
              clear hR1 hR2 he1 he2
              generalize l[j].ix = X1 at *
              generalize l[j].sb = X2 at *
              generalize e.ix = Y1 at *
              generalize e.sb = Y2 at *
              by_cases hx : X1 = Y1
              · subst hx
                by_cases hy : X2 = Y2
                · subst hy
                  have e1 := hidOf2 (HY.out ⟨rfl, rfl⟩)
                  clear HY HN HJ HS HA
                  go_upto_region 12 with fail
                  go_quiet (fail)
                  go_wp2
                  go_ret
                  exact ⟨ret_int (by rw [e1.out]; rfl), bdr B3 _⟩
                · have d3 : ((X2 : Int) == (Y2 : Int)) = false := by simp; omega
                  have e1 := hidOf2 (HN.out (fun h => hy h.2))
                  clear HY HN HJ
                  go_upto_region 12 with fail
                  go_quiet (fail)
                  go_wp2
                  go_roundw
                  case rel => exact ⟨j + 1, by omega, by go_num, e1, bdr B3 _⟩
                  case measure => simp [intOf]; omega
              · have d3 : ((X1 : Int) == (Y1 : Int)) = false := by simp; omega
                have e1 := hidOf2 (HN.out (fun h => hx h.1))
                clear HY HN HJ
                go_upto_region 12 with fail
                go_quiet (fail)
                go_wp2
                go_roundw
                case rel => exact ⟨j + 1, by omega, by go_num, e1, bdr B3 _⟩
                case measure => simp [intOf]; omega
            · have hjk2 : j = k := by omega
              subst hjk2
              have e1 := hidOf2 (show R = chkG (l.take (j + 1)) (l.drop (j + 1)) from HS.out.trans (if_neg (fun h => by
                obtain ⟨m, hm, hmj, h3⟩ := HA.out.1 h
                exact HJ.out m hm hmj h3)))
              clear HS HA HJ
              go_wp2
              go_roundw
              case rel => exact ⟨j + 1, by omega, by go_num, e1, B3⟩
              case measure => simp [intOf]; omega
        · have d1 : ((e.can : Int) != 0) = true := by simpa using hcz
          rw [if_pos hcz] at HS
          generalize e.can = CN at *
          go_wp2
          go_ret
          exact ⟨ret_int (by rw [HS.out]), B2⟩
      · have e1 := hidOf2 (show R = 0 by rw [HR.out, List.drop_eq_nil_of_le (by omega)]; rfl)
        clear HR
        go_wp2
        go_ret
        exact ⟨ret_int (by rw [e1.out]; rfl), B1⟩
end Go.Proofs.Ythalhidebkhclaa
