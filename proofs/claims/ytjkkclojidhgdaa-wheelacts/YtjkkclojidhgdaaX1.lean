/- The document's Next. -/
import Derived.Test.YtjkkclojidhgdaaX0
namespace Go.Proofs.Ytjkkclojidhgdaa
open Go.RowKit Go.Maps Go.WideMaps
set_option linter.unusedVariables false
set_option maxRecDepth 1000000
set_option linter.unusedSimpArgs false
/-- The least number of ticks that is left. -/
def lstN : List Dt → Nat
  | [] => 0
  | t :: r => r.foldl (fun a x => min a x.left) t.left
theorem lst_snoc (l : List Dt) (t : Dt) : lstN (l ++ [t]) = if l.length = 0 then t.left else min (lstN l) t.left := by
  cases l with
  | nil => rfl
  | cons y r => rw [if_neg (by simp)]; simp [lstN]
theorem lst_take {l : List Dt} {k : Nat} (hk : k < l.length) : lstN (l.take (k + 1)) = if k = 0 then l[k].left else min (lstN (l.take k)) l[k].left := by
  rw [List.take_succ_eq_append_getElem hk, lst_snoc, List.length_take, Nat.min_eq_left (by omega)]
set_option maxHeartbeats 2000000 in
theorem XNext_any {E : Nat} {l : List Dt} {now last : Nat} {v : Value} {w : World} (h : Xw E l now last v w) :
    Calls Try.prog 25 #[.pointer (some ⟨E, 0, none⟩)] w fun e w' => e = .returned (.tuple #[.int .u64 (lstN l), .bool (decide (0 < l.length))]) ∧ Below w.heap.size w w' := by
  obtain ⟨c0, c1, c2⟩ := h.c
  obtain ⟨ao, cap, rfl⟩ := h.row.wide.shape
  have hlen := h.len
  have HW : Hid (Wide 4 dtC w (.slice ao l.length cap) l) := h.row.wide
  clear h
  go_enter Try.func25, Try.ntmps25
  go_wp2
  go_loopw [4, 5] (fun lv i x => ∃ k : Nat, k ≤ l.length ∧ i = .int .i64 k ∧ lv = .int .u64 (lstN (l.take k)) ∧ x = w) (fun _ i _ => l.length - (intOf i).toNat)
  case atStart => exact ⟨0, by omega, rfl, rfl, rfl⟩
  case round =>
    obtain ⟨k, hk, rfl, rfl, rfl⟩ := hrel
    by_cases hkl : k < l.length
    · obtain ⟨b, off, cap', hv, hb, hR⟩ := HW.out.at0 k hkl
      have hao : ao = some ⟨b, off, none⟩ := by injection hv
      subst hao
      obtain ⟨d0, d1, d2, d3⟩ := dt_cells hR
      have hst := lst_take hkl
      have HS := toHid2 hst
      clear hst hv hR
      generalize l[k].left = z at *
      generalize lstN (l.take k) = m at *
      by_cases hz : k = 0
      · have hz2 : ((k : Int) == 0) = true := by simp; omega
        have HS2 : Hid (lstN (l.take (k + 1)) = z) := by have := HS.out; rw [if_pos hz] at this; exact this
        clear HS hz
        go_wp2
        go_roundw
        case rel => exact ⟨k + 1, by omega, by go_num, by rw [HS2.out], by trivial⟩
        case measure => simp [intOf]; omega
      · have hz2 : ((k : Int) == 0) = false := by simp; omega
        have HS2 : Hid (lstN (l.take (k + 1)) = min m z) := by have := HS.out; rw [if_neg hz] at this; exact this
        clear HS hz
        by_cases hlt : z < m
        · have hd : decide ((z : Int) < (m : Int)) = true := by simp; omega
          go_wp2
          go_roundw
          case rel => exact ⟨k + 1, by omega, by go_num, by rw [HS2.out, Nat.min_eq_right (by omega)], by trivial⟩
          case measure => simp [intOf]; omega
        · have hd : decide ((z : Int) < (m : Int)) = false := by simp; omega
          go_wp2
          go_roundw
          case rel => exact ⟨k + 1, by omega, by go_num, by rw [HS2.out, Nat.min_eq_left (by omega)], by trivial⟩
          case measure => simp [intOf]; omega
    · have hk2 : k = l.length := by omega
      subst hk2
      rw [List.take_length]
      obtain ⟨m, hm⟩ : ∃ m, lstN l = m := ⟨_, rfl⟩
      have HMm := toHid2 hm
      rw [hm]
      clear hm
      have hgt : decide ((0 : Int) < (l.length : Int)) = decide (0 < l.length) := by rw [Bool.eq_iff_iff]; simp
      have HG := toHid2 hgt
      clear hgt
      go_wp2_with fail
      go_quiet (fail)
      go_wp2
      go_ret2
      rw [HMm.out]
      exact ⟨rfl, rfl, rfl, rfl, Nat.le_refl _, fun _ _ => rfl⟩
end Go.Proofs.Ytjkkclojidhgdaa
