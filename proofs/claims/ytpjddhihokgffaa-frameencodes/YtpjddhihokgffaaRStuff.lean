/- The contract of the document's own Stuff. -/
import Derived.Test.YtpjddhihokgffaaOne
import Derived.Test.YtpjddhihokgffaaMathU
import Derived.Test.YtpjddhihokgffaaSums
namespace Go.Proofs.Ytpjddhihokgffaa
open Go.RowKit Go.Proofs.Bits
set_option linter.unusedVariables false
set_option maxRecDepth 1000000

theorem st_last (l : List UInt8) (h : l ≠ []) : (st l).1 ≠ [] ∧ (st l).1[(st l).1.length - 1]? = some (st l).2.1 := by
  induction l using snoc_ind with
  | h0 => exact absurd rfl h
  | h1 l c _ =>
    rw [st_snoc]
    by_cases h5 : cnt (st l) c = 5
    · rw [stStep_full h5]; simp
    · rw [stStep_open h5]; simp

set_option maxHeartbeats 4000000 in
set_option maxRecDepth 1000000 in
theorem rStuff_ok (s : ByteArray) (w : World) (h0 : err s.data.toList = 0) :
    Calls Try.prog 35 #[.string s] w fun e w' => e = .returned (.tuple #[.string ⟨(stuff s.data.toList).toArray⟩, .int .i64 0]) ∧ Below w.heap.size w w' := by
  obtain ⟨hl, hall⟩ := err_zero h0
  have hs : s.size ≤ 65536 := by simpa using hl
  have H0 : Hid (err s.data.toList = 0) := h0
  clear h0 hl
  go_enter Try.func35, Try.ntmps35
  go_wp2_with (go_at_call 45; refine (Check_any s _).mono ?_; rintro e w1 ⟨rfl, rfl⟩; rw [H0.out])
  go_loopw [5, 6, 7] (fun b y i wr => ∃ k : Nat, k ≤ s.size ∧ i = .int .i64 k ∧ y = .int .i64 (st (s.data.toList.take k)).2.2 ∧ wr.ownsRow w1.heap.size 5 1 b (st (s.data.toList.take k)).1.length (Lib.byteCells (st (s.data.toList.take k)).1) ∧ b ≠ .slice none 0 0 ∧ Below w1.heap.size w1 wr) (fun _ _ i _ => s.size - (intOf i).toNat)
  case atStart => exact ⟨0, Nat.zero_le _, rfl, rfl, own_empty w1, by simp, (Below.refl _ _).alloc (Nat.le_refl _) _⟩
  case round =>
    obtain ⟨k, hk, rfl, rfl, hown, hnn, hb⟩ := hrel
    have szw := hb.size
    obtain ⟨g, cap, rfl, hBg, hRow⟩ := own_form hown hnn
    by_cases hp : k < s.size
    · have hbit := all_at hall k hp
      have HS : Hid (st (s.data.toList.take (k + 1)) = stStep (st (s.data.toList.take k)) s[k]) := by
        show st _ = _
        rw [take_snoc s k hp, st_snoc]
      have hcn := st_count (s.data.toList.take k)
      have hln := st_length (s.data.toList.take k)
      have hlt : (s.data.toList.take k).length ≤ k := List.length_take_le _ _
      have hlast : 0 < k → (st (s.data.toList.take k)).1 ≠ [] ∧ (st (s.data.toList.take k)).1[(st (s.data.toList.take k)).1.length - 1]? = some (st (s.data.toList.take k)).2.1 := by
        intro h
        refine st_last _ ?_
        intro e
        have := congrArg List.length e
        rw [List.length_take, size_len, List.length_nil] at this
        omega
      have hzero : k = 0 → st (s.data.toList.take k) = ([], 0, 0) := by intro h; subst h; rfl
      generalize st (s.data.toList.take k) = t at *
      obtain ⟨acc, lv, ct⟩ := t
      simp only at hcn hln HS hown hRow hlast
      by_cases hk0 : k = 0
      · have ez := hzero hk0
        simp only [Prod.mk.injEq] at ez
        have hc1 : cnt (acc, lv, ct) s[k] = 1 := by
          unfold cnt
          rw [if_neg]
          intro e
          simp only at e
          rw [ez.2.1] at e
          rw [e] at hbit
          simp at hbit
        have HC : Hid (cnt (acc, lv, ct) s[k] = 1) := hc1
        have hg0 : decide ((0 : Int) < (acc.length : Int)) = false := by rw [ez.1]; rfl
        have hg00 : decide (0 < acc.length) = false := by rw [ez.1]; rfl
        clear hzero hlast ez hk0
        go_wp2_with fail
        go_quiet (fail)
        have hownq : ((wr.drewN nq).alloc (.cells #[.int .u8 s[k].toNat] 5)).ownsRow w1.heap.size 5 1 (.slice (some ⟨g, 0, none⟩) acc.length cap) acc.length (Lib.byteCells acc) := ownsRow_alloc hown _
        have hcq : ((wr.drewN nq).alloc (.cells #[.int .u8 s[k].toNat] 5)).cell? ⟨wr.heap.size, 0, none⟩ = some (.int .u8 s[k].toNat) := cell_new (wr.drewN nq) _ _
        have hbq : Below w1.heap.size w1 ((wr.drewN nq).alloc (.cells #[.int .u8 s[k].toNat] 5)) := (below_drawn hb nq).alloc szw _
        go_wp2_with (at_builtin; refine append_one rfl _ _ rfl w1.heap.size _ acc rfl hownq ⟨wr.heap.size, 0, none⟩ s[k] rfl hcq (by omega) (by simp; omega) ?_)
        intro v2 w2 hown2a hg2 hn2
        have hown2 : w2.ownsRow w1.heap.size 5 1 v2 (acc ++ [s[k]]).length (Lib.byteCells (acc ++ [s[k]])) := by simpa using hown2a
        clear hown2a
        have b2 := hbq.grown hg2 (by simp; omega) (own_block hown)
        rw [stStep_open (by rw [hc1]; omega)] at HS
        clear hc1 hownq hcq hbq hg2
        go_wp2
        go_roundw
        case rel => exact ⟨k + 1, by omega, by go_num, val_int (by rw [HS.out]; simp only [HC.out]; rfl), by rw [HS.out]; exact hown2, hn2, b2⟩
        case measure => simp [intOf]; omega
      · obtain ⟨hne, hla⟩ := hlast (by omega)
        have hpos : 0 < acc.length := List.length_pos_iff.2 hne
        have hg1 : decide ((0 : Int) < (acc.length : Int)) = true := by simp; omega
        have hcell := hRow.cell (acc.length - 1) (by rw [Lib.byteCells_length]; omega)
        have e1 : (Lib.byteCells acc)[acc.length - 1]'(by rw [Lib.byteCells_length]; omega) = .int .u8 lv.toNat := by
          have hla2 : acc[acc.length - 1]'(by omega) = lv := by
            rw [List.getElem?_eq_getElem (by omega)] at hla; exact Option.some.inj hla
          simp [Lib.byteCells, hla2]
        rw [e1] at hcell
        clear hzero hlast hla e1 hne
        by_cases hc : s[k] = lv
        · have hcb : ((lv.toNat : Int) == (s[k].toNat : Int)) = true := by rw [hc]; simp
          have hc1 : cnt (acc, lv, ct) s[k] = ct + 1 := by simp [cnt, hc]
          have HC : Hid (cnt (acc, lv, ct) s[k] = ct + 1) := hc1
          clear hc
          by_cases h5 : ct + 1 = 5
          · have h5b : ((ct : Int) + 1 == 5) = true := by rw [beq_iff_eq]; omega
            rw [stStep_full (by rw [hc1]; exact h5)] at HS
            clear hc1
            go_wp2_with fail
            go_quiet (fail)
            have hownq : ((wr.drewN nq).alloc (.cells #[.int .u8 s[k].toNat] 5)).ownsRow w1.heap.size 5 1 (.slice (some ⟨g, 0, none⟩) acc.length cap) acc.length (Lib.byteCells acc) := ownsRow_alloc hown _
            have hcq : ((wr.drewN nq).alloc (.cells #[.int .u8 s[k].toNat] 5)).cell? ⟨wr.heap.size, 0, none⟩ = some (.int .u8 s[k].toNat) := cell_new (wr.drewN nq) _ _
            have hbq : Below w1.heap.size w1 ((wr.drewN nq).alloc (.cells #[.int .u8 s[k].toNat] 5)) := (below_drawn hb nq).alloc szw _
            go_wp2_with (at_builtin; refine append_one rfl _ _ rfl w1.heap.size _ acc rfl hownq ⟨wr.heap.size, 0, none⟩ s[k] rfl hcq (by omega) (by simp; omega) ?_)
            intro v2 w2 hown2a hg2 hn2
            have hown2 : w2.ownsRow w1.heap.size 5 1 v2 (acc ++ [s[k]]).length (Lib.byteCells (acc ++ [s[k]])) := by simpa using hown2a
            clear hown2a
            have b2 := hbq.grown hg2 (by simp; omega) (own_block hown)
            have s2 := b2.size
            have hb2 := num_oth s[k] hbit
            have hownq2 : (w2.alloc (.cells #[.int .u8 (oth s[k]).toNat] 5)).ownsRow w1.heap.size 5 1 v2 (acc ++ [s[k]]).length (Lib.byteCells (acc ++ [s[k]])) := ownsRow_alloc hown2 _
            have hcq2 : (w2.alloc (.cells #[.int .u8 (oth s[k]).toNat] 5)).cell? ⟨w2.heap.size, 0, none⟩ = some (.int .u8 (oth s[k]).toNat) := cell_new w2 _ _
            have hbq2 : Below w1.heap.size w1 (w2.alloc (.cells #[.int .u8 (oth s[k]).toNat] 5)) := b2.alloc s2 _
            clear hownq hcq hbq hg2
            go_wp2_with (at_builtin; refine append_one rfl _ _ rfl w1.heap.size _ (acc ++ [s[k]]) rfl hownq2 ⟨w2.heap.size, 0, none⟩ (oth s[k]) rfl hcq2 (by simp; omega) (by simp; omega) ?_)
            intro v3 w3 hown3a hg3 hn3
            have hown3 : w3.ownsRow w1.heap.size 5 1 v3 (acc ++ [s[k]] ++ [oth s[k]]).length (Lib.byteCells (acc ++ [s[k]] ++ [oth s[k]])) := by simpa using hown3a
            clear hown3a
            have b3 := hbq2.grown hg3 (by simp; omega) (own_lt hown2)
            clear hownq2 hcq2 hbq2 hg3
            go_wp2
            go_roundw
            case rel => exact ⟨k + 1, by omega, by go_num, val_int (by rw [HS.out]; rfl), by rw [HS.out]; exact hown3, hn3, b3⟩
            case measure => simp [intOf]; omega
          · have h5b : ((ct : Int) + 1 == 5) = false := by rw [beq_eq_false_iff_ne]; omega
            rw [stStep_open (by rw [hc1]; exact h5)] at HS
            clear hc1
            go_wp2_with fail
            go_quiet (fail)
            have hownq : ((wr.drewN nq).alloc (.cells #[.int .u8 s[k].toNat] 5)).ownsRow w1.heap.size 5 1 (.slice (some ⟨g, 0, none⟩) acc.length cap) acc.length (Lib.byteCells acc) := ownsRow_alloc hown _
            have hcq : ((wr.drewN nq).alloc (.cells #[.int .u8 s[k].toNat] 5)).cell? ⟨wr.heap.size, 0, none⟩ = some (.int .u8 s[k].toNat) := cell_new (wr.drewN nq) _ _
            have hbq : Below w1.heap.size w1 ((wr.drewN nq).alloc (.cells #[.int .u8 s[k].toNat] 5)) := (below_drawn hb nq).alloc szw _
            go_wp2_with (at_builtin; refine append_one rfl _ _ rfl w1.heap.size _ acc rfl hownq ⟨wr.heap.size, 0, none⟩ s[k] rfl hcq (by omega) (by simp; omega) ?_)
            intro v2 w2 hown2a hg2 hn2
            have hown2 : w2.ownsRow w1.heap.size 5 1 v2 (acc ++ [s[k]]).length (Lib.byteCells (acc ++ [s[k]])) := by simpa using hown2a
            clear hown2a
            have b2 := hbq.grown hg2 (by simp; omega) (own_block hown)
            clear hownq hcq hbq hg2
            go_wp2
            go_roundw
            case rel => exact ⟨k + 1, by omega, by go_num, val_int (by rw [HS.out]; simp only [HC.out]; omega), by rw [HS.out]; exact hown2, hn2, b2⟩
            case measure => simp [intOf]; omega
        · have hcb : ((lv.toNat : Int) == (s[k].toNat : Int)) = false := by
            rw [beq_eq_false_iff_ne]; intro e; exact hc (UInt8.toNat_inj.1 (by omega))
          have hc1 : cnt (acc, lv, ct) s[k] = 1 := by simp [cnt, hc]
          have HC : Hid (cnt (acc, lv, ct) s[k] = 1) := hc1
          rw [stStep_open (by rw [hc1]; omega)] at HS
          clear hc hc1
          go_wp2_with fail
          go_quiet (fail)
          have hownq : ((wr.drewN nq).alloc (.cells #[.int .u8 s[k].toNat] 5)).ownsRow w1.heap.size 5 1 (.slice (some ⟨g, 0, none⟩) acc.length cap) acc.length (Lib.byteCells acc) := ownsRow_alloc hown _
          have hcq : ((wr.drewN nq).alloc (.cells #[.int .u8 s[k].toNat] 5)).cell? ⟨wr.heap.size, 0, none⟩ = some (.int .u8 s[k].toNat) := cell_new (wr.drewN nq) _ _
          have hbq : Below w1.heap.size w1 ((wr.drewN nq).alloc (.cells #[.int .u8 s[k].toNat] 5)) := (below_drawn hb nq).alloc szw _
          go_wp2_with (at_builtin; refine append_one rfl _ _ rfl w1.heap.size _ acc rfl hownq ⟨wr.heap.size, 0, none⟩ s[k] rfl hcq (by omega) (by simp; omega) ?_)
          intro v2 w2 hown2a hg2 hn2
          have hown2 : w2.ownsRow w1.heap.size 5 1 v2 (acc ++ [s[k]]).length (Lib.byteCells (acc ++ [s[k]])) := by simpa using hown2a
          clear hown2a
          have b2 := hbq.grown hg2 (by simp; omega) (own_block hown)
          clear hownq hcq hbq hg2
          go_wp2
          go_roundw
          case rel => exact ⟨k + 1, by omega, by go_num, val_int (by rw [HS.out]; simp only [HC.out]; rfl), by rw [HS.out]; exact hown2, hn2, b2⟩
          case measure => simp [intOf]; omega
    · obtain rfl : k = s.size := by omega
      have htx := hRow.text cap
      have HST : Hid (stuff s.data.toList = (st (s.data.toList.take s.size)).1) := by
        show stuff _ = _
        rw [take_all]; rfl
      generalize st (s.data.toList.take s.size) = t at *
      go_wp2
      go_ret2
      rw [HST.out]
      exact ⟨rfl, hb⟩

theorem rStuff_any (s : ByteArray) (w : World) :
    Calls Try.prog 35 #[.string s] w fun e w' => e = .returned (.tuple #[.string ⟨(stuffV s.data.toList).toArray⟩, .int .i64 (err s.data.toList)]) ∧ Below w.heap.size w w' := by
  by_cases h0 : err s.data.toList = 0
  · rw [stuffV, if_pos h0, h0]
    exact rStuff_ok s w h0
  · have HF : Hid (stuffV s.data.toList = []) := by show stuffV _ = []; simp [stuffV, h0]
    have hn : (err s.data.toList != 0) = true := by simp [h0]
    go_enter Try.func35, Try.ntmps35
    go_wp2_with (go_at_call 45; refine (Check_any s _).mono ?_; rintro e w1 ⟨rfl, rfl⟩)
    go_ret2
    refine ⟨?_, Below.refl _ _⟩
    rw [HF.out]
    rfl
end Go.Proofs.Ytpjddhihokgffaa
