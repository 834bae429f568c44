/- The law TypesEncodes returns true whatever comes in. -/
import Derived.Test.YtoihcjokifjcgaaTyL
import Derived.Test.YtoihcjokifjcgaaTyLa
import Derived.Test.YtoihcjokifjcgaaTy11
import Derived.Test.YtoihcjokifjcgaaTy12
namespace Go.Proofs.Ytoihcjokifjcgaa
open Go.RowKit Go.Proofs.Ty
set_option linter.unusedVariables false
set_option maxRecDepth 1000000
/-- What was written is read as it was. -/
theorem chk_plain (v : Vl) : v.plain.chk = v.chk := by
  have hk := kind_le v.t
  by_cases h : kind v.t = 1 ∨ kind v.t = 2
  · rw [Vl.plain_num h]
    unfold Vl.chk chk Vl.setB
    rcases h with h | h <;> simp [h]
  · by_cases h3 : kind v.t = 3 ∨ kind v.t = 4
    · rw [Vl.plain_txt h3]
      unfold Vl.chk chk Vl.setN
      rcases h3 with h | h <;> simp [h]
    · rw [Vl.plain_none (by omega)]
theorem enc_dec (v : Vl) (h : v.chk = 0) : decE v.t v.enc = 0 ∧ decW v.t v.enc = v.plain := by
  have hE : v.enc = if 0 < siz v.t then lowL v.n (siz v.t) else v.s.data.toList := by
    show encV v.t v.n v.s = _
    unfold encV
    rw [if_pos (show chk v.t v.n v.s = 0 from h)]
    rfl
  have hk0 : kind v.t ≠ 0 := by
    intro e
    have : v.chk = 1 := by unfold Vl.chk chk; simp [e]
    omega
  have hz := siz_zero v.t
  have hp := chk_plain v
  rw [h] at hp
  by_cases hs : 0 < siz v.t
  · rw [if_pos hs] at hE
    have hl : v.enc.length = siz v.t := by rw [hE, lowL_length]
    have hk : kind v.t = 1 ∨ kind v.t = 2 := by omega
    have hN : decN v.t v.enc = v.n := by
      rw [← wide_dec hs hl, hE]
      show wv v = v.n
      rcases hk with hk | hk
      · by_cases h1 : v.t = 1
        · have := chk_bool h1
          rw [h] at this
          by_cases hc : wv v = v.n ∧ ¬ 1 < v.n
          · exact hc.1
          · rw [if_neg hc] at this; omega
        · have := chk_num1 hk h1
          rw [h] at this
          by_cases hc : wv v = v.n
          · exact hc
          · rw [if_neg hc] at this; omega
      · have := chk_num2 hk
        rw [h] at this
        by_cases hc : wv v = v.n
        · exact hc
        · rw [if_neg hc] at this; omega
    have hS : decS v.t v.enc = ⟨#[]⟩ := by unfold decS; rw [if_pos hk]
    have hF : fitE v.t v.enc.length = 0 := by
      have := siz_le v.t
      rw [hl]
      unfold fitE
      rw [if_neg hk0, if_neg (by omega), if_neg (by omega)]
    have e1 : decE v.t v.enc = 0 := by
      unfold decE
      rw [hF, hN, hS, if_neg (by simp)]
      rw [Vl.plain_num hk] at hp
      have : chk v.t v.n ⟨#[]⟩ = 0 := hp
      rw [this, if_neg (by simp)]
    refine ⟨e1, ?_⟩
    unfold decW
    rw [if_pos e1, hN, hS, Vl.plain_num hk]
    exact mkV_eq _ _ _
  · rw [if_neg hs] at hE
    have hk : kind v.t = 3 ∨ kind v.t = 4 := by
      have := kind_le v.t
      omega
    have hle : v.s.size ≤ 65536 := by
      have h' : Ty.chk v.t v.n v.s = 0 := h
      unfold chk at h'
      rw [if_neg (by omega), if_neg (by omega), if_neg hk0] at h'
      by_cases hc : 65536 < v.s.size
      · rw [if_pos hc] at h'; omega
      · omega
    have hN : decN v.t v.enc = 0 := by unfold decN; rw [if_neg (by omega), if_neg (by omega)]
    have hS : decS v.t v.enc = v.s := by
      unfold decS
      rw [if_neg (by omega), hE]
    have hF : fitE v.t v.enc.length = 0 := by
      rw [hE]
      unfold fitE
      rw [if_neg hk0, if_neg (by omega), if_neg (by simp; omega)]
    have e1 : decE v.t v.enc = 0 := by
      unfold decE
      rw [hF, hN, hS, if_neg (by simp)]
      rw [Vl.plain_txt hk] at hp
      have : chk v.t 0 v.s = 0 := hp
      rw [this, if_neg (by simp)]
    refine ⟨e1, ?_⟩
    unfold decW
    rw [if_pos e1, hN, hS, Vl.plain_txt hk]
    exact mkV_eq _ _ _
theorem bne_self_int (a : Int) : (a != a) = false := by simp
set_option maxHeartbeats 4000000 in
theorem tenc_walk (v : Vl) (t : Int) (w : World) :
    Calls Try.prog 3 #[.agg v.arr, .int .i64 t] w fun e w' => e = .returned (.bool true) ∧ Below w.heap.size w w' := by
  have hE := Encode_v v
  have hF := r7Encode_v v
  have hS := Size_any t
  have hS7 := r7Size_any t
  have hC := Check_v v
  have hC7 := r7Check_v v
  have hP := Plain_v v
  have hP7 := r7Plain_v v
  have hL := lives7_any
  have HD := hidOf (enc_dec v)
  have hD := fun x w => Decode_v v.t v.ht x v.enc w
  have hsame := vlB_same v.plain
  have fn := Va.new w v
  have bn : Below w.heap.size w (w.alloc (.cells v.arr 24)) := (Below.refl _ _).alloc (Nat.le_refl _) _
  have sn := size_alloc w (.cells v.arr 24)
  generalize v.chk = C at *
  generalize v.enc = E at *
  generalize siz t = z at *
  have dz1 : decide ((0 : Int) < (z : Int)) = decide (0 < z) := by simp
  go_enter Try.func3, Try.ntmps3
  go_upto_region 1 with fail
  go_wp2_with (refine fn.ld rfl _ rfl rfl ?_)
  obtain ⟨q, hq⟩ : ∃ q, w.heap.size = q := ⟨_, rfl⟩
  rw [hq] at fn bn sn
  refine (hE _).mono ?_
  rintro e w1 ⟨x1, rfl, hB1, b1⟩
  have f1 := fn.below b1
  have B1 := bn.trans (b1.mono (by omega))
  have s1 := b1.size
  clear fn bn b1 hE
  go_upto_region 2 with fail
  go_wp2_with (refine f1.ld rfl _ rfl rfl ?_)
  refine (hF _).mono ?_
  rintro e w2 ⟨x2, rfl, hB2, b2⟩
  have f2 := f1.below b2
  have B2 := B1.trans (b2.mono (by omega))
  have s2 := b2.size
  have hBa := hB1.below b2
  clear f1 B1 b2 hF hB1
  go_upto_region 4 with (go_at_call 9; refine (hS _).mono ?_; rintro e w2 ⟨rfl, rfl⟩)
  have T1 := fun x => Later.text hBa (W := w2) x
  have T2 := fun x => Later.text hB2 (W := w2) x
  have hL2 := Later.some w2
  refine wp_region_later (by kernel_rfl) (by kernel_rfl) ?_
  repeat (go_big_quiet_step (fail))
  refine quiet_ldv f2 rfl _ rfl rfl ?_
  simp only [Act.put, List.setIfInBounds_toArray, List.set_cons_succ, List.set_cons_zero]
  repeat (go_big_quiet_step (first | (go_at_call 10; with_reducible exact later (hC _)) | (go_at_call 11; with_reducible exact later (hC7 _)) | (go_at_call 12; with_reducible exact later (hP _)) | (go_at_call 13; with_reducible exact later (hP7 _)) | (go_at_call 14; with_reducible exact laterS (hS7 _))))
  refine quiet_ldv f2 rfl _ rfl rfl ?_
  simp only [Act.put, List.setIfInBounds_toArray, List.set_cons_succ, List.set_cons_zero]
  repeat (go_big_quiet_step (first | (go_at_call 10; with_reducible exact later (hC _)) | (go_at_call 11; with_reducible exact later (hC7 _)) | (go_at_call 12; with_reducible exact later (hP _)) | (go_at_call 13; with_reducible exact later (hP7 _)) | (go_at_call 14; with_reducible exact laterS (hS7 _))))
  refine quiet_ldv f2 rfl _ rfl rfl ?_
  simp only [Act.put, List.setIfInBounds_toArray, List.set_cons_succ, List.set_cons_zero]
  repeat (go_big_quiet_step (first | (go_at_call 10; with_reducible exact later (hC _)) | (go_at_call 11; with_reducible exact later (hC7 _)) | (go_at_call 12; with_reducible exact later (hP _)) | (go_at_call 13; with_reducible exact later (hP7 _)) | (go_at_call 14; with_reducible exact laterS (hS7 _))))
  refine quiet_ldv f2 rfl _ rfl rfl ?_
  simp only [Act.put, List.setIfInBounds_toArray, List.set_cons_succ, List.set_cons_zero]
  repeat (go_big_quiet_step (first | (go_at_call 10; with_reducible exact later (hC _)) | (go_at_call 11; with_reducible exact later (hC7 _)) | (go_at_call 12; with_reducible exact later (hP _)) | (go_at_call 13; with_reducible exact later (hP7 _)) | (go_at_call 14; with_reducible exact laterS (hS7 _))))
  refine quiet_neqv v.plain v.plain rfl _ _ rfl rfl rfl ?_
  simp only [Act.put, List.setIfInBounds_toArray, List.set_cons_succ, List.set_cons_zero]
  rw [hsame]
  repeat (go_big_quiet_step (first | (go_at_call 10; with_reducible exact later (hC _)) | (go_at_call 11; with_reducible exact later (hC7 _)) | (go_at_call 12; with_reducible exact later (hP _)) | (go_at_call 13; with_reducible exact later (hP7 _)) | (go_at_call 14; with_reducible exact laterS (hS7 _))))
  refine wpQuiet_nil ?_
  rintro _ ⟨y, rfl⟩
  have f3 := Later.va f2 y
  have B3 := B2.trans (y.below.mono (by omega))
  have hB3 := hBa.below y.below
  have s3 := y.below.size
  clear T1 T2 f2 B2 hBa hB2
  generalize y.now = w3 at *
  clear y
  by_cases h0 : C = 0
  · subst h0
    obtain ⟨hd1, hd2⟩ := HD.out rfl
    have hD1 := hD x1 w3 hB3
    rw [hd1, hd2] at hD1
    have c0 := f3.c0
    clear HD hD hd1 hd2
    go_upto_region 8 with fail
    go_wp2_with fail
    refine hD1.mono ?_
    rintro e w4 ⟨rfl, b4⟩
    have f4 := f3.below b4
    have B4 := B3.trans (b4.mono (by omega))
    have s4 := b4.size
    obtain ⟨gn, g5, f5, B5, k5⟩ := keepV f4 B4 (by omega) v.plain
    have s5 := k5.size
    clear hD1 b4 f3 f4 B3 B4 k5 hB3
    go_upto_region 9 with (refine gn.sd v.plain rfl _ _ rfl rfl rfl ?_)
    generalize (w4.alloc (.cells #[.int .i64 0, .int .u64 0, .string ⟨#[]⟩] 24)).setRow w4.heap.size v.plain.arr = w5 at *
    have hL5 := Later.some w5
    refine wp_region_later (by kernel_rfl) (by kernel_rfl) ?_
    refine quiet_ldv g5 rfl _ rfl rfl ?_
    simp only [Act.put, List.setIfInBounds_toArray, List.set_cons_succ, List.set_cons_zero]
    refine quiet_ldv f5 rfl _ rfl rfl ?_
    simp only [Act.put, List.setIfInBounds_toArray, List.set_cons_succ, List.set_cons_zero]
    repeat (go_big_quiet_step (first | (go_at_call 13; with_reducible exact later (hP7 _))))
    refine quiet_eqv v.plain v.plain rfl _ _ rfl rfl rfl ?_
    simp only [Act.put, List.setIfInBounds_toArray, List.set_cons_succ, List.set_cons_zero]
    rw [hsame]
    repeat (go_big_quiet_step (first | (go_at_call 15; with_reducible exact later (hL _))))
    refine wpQuiet_nil ?_
    rintro _ ⟨y, rfl⟩
    have B6 := B5.trans (y.below.mono (by have := g5.lt; omega))
    go_wp2
    go_ret
    exact ⟨rfl, by rw [hq]; exact B6⟩
  · have d0 : ((C : Int) != 0) = true := by simpa using h0
    go_wp2_with fail
    refine (hL _).mono ?_
    rintro e w4 ⟨rfl, b4⟩
    have B4 := B3.trans (b4.mono (by omega))
    go_wp2
    go_ret
    exact ⟨rfl, by rw [hq]; exact B4⟩
end Go.Proofs.Ytoihcjokifjcgaa
