/- The law FrameEncodes returns true whatever frames come in. -/
import Derived.Test.YtpjddhihokgffaaLive2
import Derived.Test.YtpjddhihokgffaaMathCut
import Derived.Test.YtpjddhihokgffaaRPla
import Derived.Test.YtpjddhihokgffaaRBody
import Derived.Test.YtpjddhihokgffaaEqW
namespace Go.Proofs.Ytpjddhihokgffaa
open Go.RowKit Go.Proofs.Bits
set_option linter.unusedVariables false
set_option maxRecDepth 1000000

theorem put_le (l : List UInt8) : l = [] ∨ 4 * (stuff l).length + (st l).2.2 ≤ 5 * l.length ∧ 1 ≤ (st l).2.2 := by
  induction l using snoc_ind with
  | h0 => left; rfl
  | h1 l c ih =>
    right
    rw [stuff_snoc, st_snoc, List.length_append, List.length_append, List.length_singleton]
    have hc := st_count l
    by_cases h5 : cnt (st l) c = 5
    · rw [if_pos h5, stStep_full h5]
      rcases ih with rfl | ⟨i1, i2⟩
      · exact absurd h5 (by unfold cnt; simp [st, stFrom])
      · have : (st l).2.2 = 4 := by unfold cnt at h5; split at h5 <;> omega
        simp only [List.length_cons, List.length_nil]
        omega
    · rw [if_neg h5, stStep_open h5]
      simp only [List.length_singleton]
      rcases ih with rfl | ⟨i1, i2⟩
      · have : cnt (st []) c = 1 := by unfold cnt; simp [st, stFrom]
        rw [this]
        simp [stuff, st, stFrom]
      · have hcn : cnt (st l) c ≤ (st l).2.2 + 1 ∧ 1 ≤ cnt (st l) c := by unfold cnt; split <;> omega
        omega
theorem bits_long (f : Fr) (h0 : f.chk = 0) (b : Bool) : ((f.bits b).length : Int) ≤ longV f.bytes f.ext + 10 ∧ longE f.bytes = 0 := by
  have hb := f.bytes_le
  have hl := bits_length f b
  have hbl := body_length f
  have hp := put_le f.body
  have hne : f.body ≠ [] := by
    intro e
    rw [e] at hbl
    simp at hbl
    split at hbl <;> omega
  rcases hp with hp | ⟨hp, hq⟩
  · exact absurd hp hne
  · refine ⟨?_, by unfold longE; rw [if_neg (by omega)]⟩
    unfold longV
    rw [if_neg (by omega), hl]
    cases hx : f.ext
    · simp only [hx, Bool.false_eq_true, if_false] at hbl ⊢
      omega
    · simp only [hx, if_true] at hbl ⊢
      omega
theorem decV_ack (f : Fr) (h0 : f.chk = 0) : decV (f.bits true) = .tuple #[f.plain.val, .int .i64 (f.bits true).length, .int .i64 0] := by
  have hl := bits_length f true
  have hs := stuff_body_length f
  have := decV_behind f h0 [] rfl (by simp; omega)
  rw [List.append_nil] at this
  exact this
theorem decV_noack (f : Fr) (h0 : f.chk = 0) : decV (f.bits false) = .tuple #[Fr.nul.val, .int .i64 ((stuff f.body).length + 1), .int .i64 23] := by
  have hl := bits_length f false
  have hs := stuff_body_length f
  have he : err (f.bits false) = 0 := err_of (bits_all f false) (by omega)
  have hb : f.bits false = stuff f.body ++ [49, 49, 49, 49, 49, 49, 49, 49, 49, 49] := by simp [Fr.bits, flagV]
  have hd : decS (f.bits false) = .error ((stuff f.body).length + 1, 23) := by
    rw [hb]
    have a1 := bodyS_R (t := stuff f.body ++ [49, 49, 49, 49, 49, 49, 49, 49, 49, 49]) f h0 (List.prefix_append _ _)
    have g0 := get_pre (List.prefix_refl (stuff f.body ++ [49, 49, 49, 49, 49, 49, 49, 49, 49, 49])) 0 (by simp)
    have g1 := get_pre (List.prefix_refl (stuff f.body ++ [49, 49, 49, 49, 49, 49, 49, 49, 49, 49])) 1 (by simp)
    have a2 : fixS (stuff f.body ++ [49, 49, 49, 49, 49, 49, 49, 49, 49, 49]) 49 22 (R f.body) = _ := fixS_at g0
    have a3 : fixS (stuff f.body ++ [49, 49, 49, 49, 49, 49, 49, 49, 49, 49]) 48 23 { R f.body with pos := (R f.body).pos + 1 } = .error ((stuff f.body).length + 1, 23) := by
      unfold fixS
      have g1' : (stuff f.body ++ [49, 49, 49, 49, 49, 49, 49, 49, 49, 49])[(R f.body).pos + 1]? = some 49 := g1
      simp only [g1']
      rfl
    rw [decS, bindR_ok a1]
    refine bindR_error ?_
    rw [endS, bindR_ok a2]
    exact bindR_error a3
  simp only [decV, decF, decN, decE, if_pos he, hd]
  simp

set_option maxHeartbeats 8000000 in
theorem fenc_walk (f g : Fr) (ack : Bool) (w : World) :
    Calls Try.prog 3 #[f.val, g.val, .bool ack] w fun e w' => e = .returned (.bool true) ∧ Below w.heap.size w w' := by
  have fA : Fa w.heap.size f ((w.alloc (.cells f.arr 25)).alloc (.cells g.arr 25)) := (Fa.new w f).alloc _
  have gA : Fa (w.heap.size + 1) g ((w.alloc (.cells f.arr 25)).alloc (.cells g.arr 25)) := by
    have := Fa.new (w.alloc (.cells f.arr 25)) g
    rw [size_alloc] at this
    exact this
  have bA : Below w.heap.size w ((w.alloc (.cells f.arr 25)).alloc (.cells g.arr 25)) := ((Below.refl _ _).alloc (Nat.le_refl _) _).alloc (by rw [size_alloc]; omega) _
  have HE := fEncode_any f ack
  have HE2 := r2Encode_any f ack
  have HF := fField_any f
  have HF2 := r2Field_any f
  have HS := fSame_any f g
  have HC := fCheck_any f
  have HC2 := r2Check_any f
  have HP := fPlain_any f
  have HP2 := r2Plain_any f
  have HP3 := r2Plain_any g
  have HBy := r2Bytes_any f
  have HL := fLongest_any f.bytes f.ext
  have HD := Decode_any (encV f ack)
  have hlong := bits_long f
  have hda := decV_ack f
  have hdn := decV_noack f
  have hev : encV f ack = if f.chk = 0 then f.bits ack else [] := rfl
  have hss := frB_same f.plain
  have hsn := frB_same Fr.nul
  unfold Fr.val at *
  have HK : Hid ((∀ h0 : f.chk = 0, ∀ b, ((f.bits b).length : Int) ≤ longV f.bytes f.ext + 10 ∧ longE f.bytes = 0) ∧ (f.chk = 0 → decV (f.bits true) = .tuple #[.agg f.plain.arr, .int .i64 (f.bits true).length, .int .i64 0]) ∧ (f.chk = 0 → decV (f.bits false) = .tuple #[.agg Fr.nul.arr, .int .i64 ((stuff f.body).length + 1), .int .i64 23]) ∧ (encV f ack = if f.chk = 0 then f.bits ack else [])) := ⟨hlong, hda, hdn, hev⟩
  clear hlong hda hdn hev
  generalize hS : (⟨(encV f ack).toArray⟩ : ByteArray) = S at *
  have HSs : Hid ((⟨(encV f ack).toArray⟩ : ByteArray) = S) := hS
  clear hS
  generalize hFl : (⟨(fldV f).toArray⟩ : ByteArray) = FL at *
  clear hFl
  go_enter Try.func3, Try.ntmps3
  go_wp2_with (refine fA.ldw rfl _ rfl rfl ?_)
  generalize ((w.alloc (.cells f.arr 25)).alloc (.cells g.arr 25)) = A at *
  generalize hq : w.heap.size = q at *
  generalize hq1 : q + 1 = q1 at *
  refine (HE _).mono ?_
  rintro e w1 ⟨rfl, b1⟩
  have f1 : Fa q f w1 := (b1.block _ fA.lt).trans fA
  have g1 : Fa q1 g w1 := (b1.block _ gA.lt).trans gA
  have B1 := bA.trans (b1.mono (by have := gA.lt; omega))
  clear fA gA bA b1 HE
  go_wp2_with (refine f1.ldw rfl _ rfl rfl ?_)
  refine (HE2 _).mono ?_
  rintro e w2 ⟨rfl, b2⟩
  have f2 : Fa q f w2 := (b2.block _ f1.lt).trans f1
  have g2 : Fa q1 g w2 := (b2.block _ g1.lt).trans g1
  have B2 := B1.trans (b2.mono (by have := g1.lt; omega))
  clear f1 g1 B1 b2 HE2
  go_wp2_with (refine f2.ldw rfl _ rfl rfl ?_)
  refine (HF _).mono ?_
  rintro e w3 ⟨rfl, b3⟩
  have f3 : Fa q f w3 := (b3.block _ f2.lt).trans f2
  have g3 : Fa q1 g w3 := (b3.block _ g2.lt).trans g2
  have B3 := B2.trans (b3.mono (by have := g2.lt; omega))
  clear f2 g2 B2 b3 HF
  go_wp2_with (refine f3.ldw rfl _ rfl rfl ?_)
  refine (HF2 _).mono ?_
  rintro e w4 ⟨rfl, b4⟩
  have f4 : Fa q f w4 := (b4.block _ f3.lt).trans f3
  have g4 : Fa q1 g w4 := (b4.block _ g3.lt).trans g3
  have B4 := B3.trans (b4.mono (by have := g3.lt; omega))
  clear f3 g3 B3 b4 HF2
  go_wp2_with fail
  have hL4 := Later.some w4
  generalize hck : f.chk = ck at *
  refine wp_region_later (by kernel_rfl) (by kernel_rfl) ?_
  repeat (first
    | (refine quiet_ldw f4 rfl _ rfl rfl ?_; simp only [Act.put, List.setIfInBounds_toArray, List.set_cons_succ, List.set_cons_zero])
    | (refine quiet_ldw g4 rfl _ rfl rfl ?_; simp only [Act.put, List.setIfInBounds_toArray, List.set_cons_succ, List.set_cons_zero])
    | (refine quiet_neqw f.plain f.plain rfl _ _ rfl rfl rfl ?_; rw [hss]; simp only [Bool.not_true, Act.put, List.setIfInBounds_toArray, List.set_cons_succ, List.set_cons_zero])
    | (refine quiet_eqw f.plain g.plain rfl _ _ rfl rfl rfl ?_; simp only [Act.put, List.setIfInBounds_toArray, List.set_cons_succ, List.set_cons_zero])
    | go_big_quiet_step (first | (go_at_call 13; with_reducible exact later (HC _)) | (go_at_call 14; with_reducible exact later (HC2 _)) | (go_at_call 15; with_reducible exact later (HP _)) | (go_at_call 16; with_reducible exact later (HP2 _)) | (go_at_call 16; with_reducible exact later (HP3 _)) | (go_at_call 17; with_reducible exact later (HS _))))
  refine wpQuiet_nil ?_
  rintro _ ⟨x1, rfl⟩
  have f5 := Later.fa f4 x1
  have g5 := Later.fa g4 x1
  have B5 : Below q w x1.now := B4.trans (x1.below.mono (by have := g4.lt; omega))
  generalize x1.now = w5 at *
  clear f4 g4 B4 HS HP HP3 HC HC2 hL4
  have hck2 := chk_cases f
  rw [hck] at hck2
  rcases hck2 with rfl | rfl
  · obtain ⟨k1, k2, k3, k4⟩ := HK.out
    rw [if_pos rfl] at k4
    have m1 := (k1 rfl ack).1
    have m0 := (k1 rfl ack).2
    have m2 : Hid (decV (f.bits true) = .tuple #[.agg f.plain.arr, .int .i64 (f.bits true).length, .int .i64 0]) := k2 rfl
    have m3 : Hid (decV (f.bits false) = .tuple #[.agg Fr.nul.arr, .int .i64 ((stuff f.body).length + 1), .int .i64 23]) := k3 rfl
    have HLm := fun W => HL W (by have := f.bytes_le; omega)
    rw [m0] at HLm
    clear k1 k2 k3 m0 HL
    rw [k4] at HD HSs
    have hSz : S.size = (f.bits ack).length := by rw [← HSs.out]; simp [ByteArray.size]
    clear HK k4
    have c1 := f5.c1
    have hbb := f.bytes_le
    go_wp2_with (refine f5.ldw rfl _ rfl rfl ?_)
    have hL5 := Later.some w5
    have kc := fun x : Later w5 => (Later.fa f5 x).c1
    have mb : 0 ≤ longV f.bytes f.ext ∧ longV f.bytes f.ext ≤ 200 := by
      unfold longV
      rw [if_neg (by omega)]
      split <;> omega
    generalize longV f.bytes f.ext = most at *
    refine wp_region_later (by kernel_rfl) (by kernel_rfl) ?_
    repeat (first
      | (refine quiet_ldw f5 rfl _ rfl rfl ?_; simp only [Act.put, List.setIfInBounds_toArray, List.set_cons_succ, List.set_cons_zero])
      | go_big_quiet_step (first | (go_at_call 20; with_reducible exact later (HBy _)) | (go_at_call 19; with_reducible exact later (HLm _))))
    refine wpQuiet_nil ?_
    rintro _ ⟨x2, rfl⟩
    have f6 := Later.fa f5 x2
    have B6 : Below q w x2.now := B5.trans (x2.below.mono (by have := g5.lt; omega))
    have l6 := f6.lt
    generalize x2.now = w6 at *
    clear f5 g5 B5 HBy HLm hL5 kc c1
    go_wp2_with fail
    generalize hLn : (f.bits ack).length = L at *
    have hcmp : decide (most + 10 < (L : Int)) = false := by simp; omega
    have hcm2 : ¬ most + 10 < (L : Int) := by omega
    cases ack
    · rw [m3.out] at HD
      generalize (stuff f.body).length = sl at *
      refine (HD _).mono ?_
      rintro e w7 ⟨rfl, b7⟩
      have f7 : Fa q f w7 := (b7.block _ l6).trans f6
      have B7 := B6.trans (b7.mono (by omega))
      have l7 := f7.lt
      have gn := Fa.new w7 Fr.nul
      have g8 := gn.row Fr.nul
      have f8 : Fa q f ((w7.alloc (.cells Fr.nul.arr 25)).setRow w7.heap.size (Fr.nul).arr) := (setRow_other _ _ _ _ (by omega)).trans (f7.alloc _)
      have B8 : Below q w ((w7.alloc (.cells Fr.nul.arr 25)).setRow w7.heap.size (Fr.nul).arr) := below_row (B7.alloc (by omega) _) (by omega) (by rw [size_alloc]; omega) _
      clear f6 f7 B6 B7 b7 HD
      have l8 := g8.lt
      go_wp2_with (first | refine gn.sd Fr.nul rfl _ _ rfl rfl rfl ?_ | refine g8.ldw rfl _ rfl rfl ?_ | refine eqw Fr.nul Fr.nul rfl _ _ rfl rfl rfl ?_)
      refine (lives2_any _).mono ?_
      rintro e w9 ⟨rfl, b9⟩
      go_wp2
      go_ret
      exact ⟨rfl, by rw [hq]; exact B8.trans (b9.mono (by omega))⟩
    · rw [m2.out, hLn] at HD
      refine (HD _).mono ?_
      rintro e w7 ⟨rfl, b7⟩
      have f7 : Fa q f w7 := (b7.block _ l6).trans f6
      have B7 := B6.trans (b7.mono (by omega))
      have l7 := f7.lt
      have gn := Fa.new w7 Fr.nul
      have g8 := gn.row f.plain
      have f8 : Fa q f ((w7.alloc (.cells Fr.nul.arr 25)).setRow w7.heap.size (f.plain).arr) := (setRow_other _ _ _ _ (by omega)).trans (f7.alloc _)
      have B8 : Below q w ((w7.alloc (.cells Fr.nul.arr 25)).setRow w7.heap.size (f.plain).arr) := below_row (B7.alloc (by omega) _) (by omega) (by rw [size_alloc]; omega) _
      clear f6 f7 B6 B7 b7 HD
      have l8 := g8.lt
      go_wp2_with (first | refine gn.sd f.plain rfl _ _ rfl rfl rfl ?_)
      generalize ((w7.alloc (.cells Fr.nul.arr 25)).setRow w7.heap.size f.plain.arr) = w8 at *
      have hL8 := Later.some w8
      have hLV := fun W => lives2_any W
      refine wp_region_later (by kernel_rfl) (by kernel_rfl) ?_
      repeat (first
        | (refine quiet_ldw g8 rfl _ rfl rfl ?_; simp only [Act.put, List.setIfInBounds_toArray, List.set_cons_succ, List.set_cons_zero])
        | (refine quiet_ldw f8 rfl _ rfl rfl ?_; simp only [Act.put, List.setIfInBounds_toArray, List.set_cons_succ, List.set_cons_zero])
        | (refine quiet_eqw f.plain f.plain rfl _ _ rfl rfl rfl ?_; rw [hss]; simp only [Act.put, List.setIfInBounds_toArray, List.set_cons_succ, List.set_cons_zero])
        | go_big_quiet_step (first | (go_at_call 16; with_reducible exact later (HP2 _)) | (go_at_call 18; with_reducible exact later (hLV _))))
      refine wpQuiet_nil ?_
      rintro _ ⟨x3, rfl⟩
      go_wp2
      go_ret
      exact ⟨rfl, by rw [hq]; exact B8.trans (x3.below.mono (by omega))⟩
  · clear HK
    go_wp2_with fail
    refine (lives2_any _).mono ?_
    rintro e w6 ⟨rfl, b6⟩
    go_wp2
    go_ret
    exact ⟨rfl, by rw [hq]; exact B5.trans (b6.mono (by have := g5.lt; omega))⟩
end Go.Proofs.Ytpjddhihokgffaa
