/- The law TypesSizes returns true whatever comes in. -/
import Derived.Test.YtoihcjokifjcgaaTyL
namespace Go.Proofs.Ytoihcjokifjcgaa
open Go.RowKit Go.Proofs.Ty
set_option linter.unusedVariables false
set_option maxRecDepth 1000000
theorem txt_eq (s : ByteArray) : (⟨s.data.toList.toArray⟩ : ByteArray) = s := by cases s; simp
set_option maxHeartbeats 1000000 in
theorem tsizes_walk (v : Vl) (w : World) :
    Calls Try.prog 6 #[.agg v.arr] w fun e w' => e = .returned (.bool true) ∧ Below w.heap.size w w' := by
  have hE := Encode_v v
  have hS := Size_any v.t
  have hV : v.enc = if v.chk = 0 then (if 0 < siz v.t then lowL v.n (siz v.t) else v.s.data.toList) else [] := rfl
  have fn := Va.new w v
  have bn : Below w.heap.size w (w.alloc (.cells v.arr 24)) := (Below.refl _ _).alloc (Nat.le_refl _) _
  have sn := size_alloc w (.cells v.arr 24)
  have hL := lives7_any
  generalize v.chk = C at *
  generalize v.enc = E at *
  go_enter Try.func6, Try.ntmps6
  go_wp2_with (refine fn.ld rfl _ rfl rfl ?_)
  generalize hq : w.heap.size = q at *
  refine (hE _).mono ?_
  rintro e w1 ⟨x, rfl, hB, b1⟩
  have f1 := fn.below b1
  have B1 := bn.trans (b1.mono (by omega))
  have s1 := b1.size
  have c0 := f1.c0
  have c2 := f1.c2
  clear fn bn b1 hE
  by_cases h0 : C = 0
  · subst h0
    rw [if_pos rfl] at hV
    by_cases hz : 0 < siz v.t
    · rw [if_pos hz] at hV
      subst hV
      have dz : decide (0 < siz v.t) = true := by simpa using hz
      rw [dz] at hS
      obtain ⟨ao, cap, rfl, h1, h2⟩ := hB
      rw [lowL_length]
      generalize siz v.t = z at *
      go_wp2_with (first | (go_at_call 9; refine (hS _).mono ?_; rintro e w2 ⟨rfl, rfl⟩))
      refine (hL _).mono ?_
      rintro e w3 ⟨rfl, b3⟩
      have B3 := B1.trans (b3.mono (by omega))
      go_wp2
      go_ret
      exact ⟨rfl, by rw [hq]; exact B3⟩
    · rw [if_neg hz] at hV
      subst hV
      have dz : decide (0 < siz v.t) = false := by simpa using hz
      rw [dz] at hS
      have hT := hB.text
      rw [txt_eq] at hT
      go_wp2_with (first | (go_at_call 9; refine (hS _).mono ?_; rintro e w2 ⟨rfl, rfl⟩))
      refine (hL _).mono ?_
      rintro e w3 ⟨rfl, b3⟩
      have B3 := B1.trans (b3.mono (by omega))
      go_wp2
      go_ret
      exact ⟨rfl, by rw [hq]; exact B3⟩
  · have d0 : ((C : Int) != 0) = true := by simpa using h0
    go_wp2_with fail
    refine (hL _).mono ?_
    rintro e w3 ⟨rfl, b3⟩
    have B3 := B1.trans (b3.mono (by omega))
    go_wp2
    go_ret
    exact ⟨rfl, by rw [hq]; exact B3⟩
end Go.Proofs.Ytoihcjokifjcgaa
