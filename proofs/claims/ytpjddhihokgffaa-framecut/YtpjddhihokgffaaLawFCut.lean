/- The law FrameCut returns true whatever comes in. -/
import Derived.Test.YtpjddhihokgffaaLive2
import Derived.Test.YtpjddhihokgffaaMathCut
import Derived.Test.YtpjddhihokgffaaRPla
namespace Go.Proofs.Ytpjddhihokgffaa
open Go.RowKit Go.Proofs.Bits
set_option linter.unusedVariables false
set_option maxRecDepth 1000000

set_option maxHeartbeats 1000000 in
theorem fcut_bad (f : Fr) (at_ : Nat) (u : ByteArray) (w : World) (h : f.chk = 1) :
    Calls Try.prog 7 #[f.val, .int .u16 at_, .string u] w fun e w' => e = .returned (.bool true) ∧ Below w.heap.size w w' := by
  have fn := Fa.new w f
  have bn : Below w.heap.size w (w.alloc (.cells f.arr 25)) := (Below.refl _ _).alloc (Nat.le_refl _) _
  have sn := size_alloc w (.cells f.arr 25)
  have HE := fEncode_any f true
  rw [h] at HE
  unfold Fr.val at *
  go_enter Try.func7, Try.ntmps7
  go_wp2_with (refine fn.ldw rfl _ rfl rfl ?_)
  refine (HE _).mono ?_
  rintro e w1 ⟨rfl, b1⟩
  have B1 := bn.trans (b1.mono (by omega))
  clear fn bn b1 HE
  go_wp2_with fail
  refine (lives2_any _).mono ?_
  rintro e w3 ⟨rfl, b3⟩
  go_wp2
  go_ret
  exact ⟨rfl, B1.trans (b3.mono B1.size)⟩

set_option maxHeartbeats 4000000 in
theorem fcut_ok (f : Fr) (at_ : Nat) (hat : at_ < 65536) (u : ByteArray) (hu : u.size ≤ 140737488351232) (w : World) (h : f.chk = 0) :
    Calls Try.prog 7 #[f.val, .int .u16 at_, .string u] w fun e w' => e = .returned (.bool true) ∧ Below w.heap.size w w' := by
  have fn := Fa.new w f
  have bn : Below w.heap.size w (w.alloc (.cells f.arr 25)) := (Below.refl _ _).alloc (Nat.le_refl _) _
  have sn := size_alloc w (.cells f.arr 25)
  have HE := fEncode_any f true
  have hev : encV f true = f.bits true := by rw [encV, if_pos h]
  have hbl := bits_length f true
  have hsl := stuff_body_length f
  have hba := bits_all f true
  rw [h, hev] at HE
  have hk : at_ % (f.bits true).length < (f.bits true).length := Nat.mod_lt _ (by omega)
  have HD := Decode_any ((f.bits true).take (at_ % (f.bits true).length))
  rw [decV_cut f h _ hk] at HD
  have hlen : (⟨(f.bits true).toArray⟩ : ByteArray).size = (f.bits true).length := by simp [ByteArray.size]
  have hmod : ((at_ : Int) % ((f.bits true).length : Int)) = ((at_ % (f.bits true).length : Nat) : Int) := by simp
  have hcut : (⟨(f.bits true).toArray⟩ : ByteArray).extract 0 (at_ % (f.bits true).length) = ⟨((f.bits true).take (at_ % (f.bits true).length)).toArray⟩ := by
    apply ByteArray.ext
    simp
  have HW : Hid (u.data.toList.all isBit = true → (f.bits true).length + u.size ≤ 65536 → decV (f.bits true ++ u.data.toList) = .tuple #[f.plain.val, .int .i64 (f.bits true).length, .int .i64 0]) := fun h1 h2 => decV_behind f h _ h1 (by rw [size_len]; exact h2)
  have hadd : (⟨(f.bits true).toArray⟩ : ByteArray) ++ u = ⟨(f.bits true ++ u.data.toList).toArray⟩ := by
    apply ByteArray.ext
    simp
  have HD2 := Decode_any (f.bits true ++ u.data.toList)
  unfold Fr.val at *
  generalize (⟨((f.bits true).take (at_ % (f.bits true).length)).toArray⟩ : ByteArray) = S1 at *
  generalize (⟨(f.bits true ++ u.data.toList).toArray⟩ : ByteArray) = S2 at *
  generalize hDV : decV (f.bits true ++ u.data.toList) = DV at *
  generalize (⟨(f.bits true).toArray⟩ : ByteArray) = S at *
  generalize (f.bits true).length = L at *
  generalize at_ % L = k at *
  go_enter Try.func7, Try.ntmps7
  go_wp2_with (refine fn.ldw rfl _ rfl rfl ?_)
  refine (HE _).mono ?_
  rintro e w1 ⟨rfl, b1⟩
  have f1 : Fa w.heap.size f w1 := (b1.block _ (by omega)).trans fn
  have B1 := bn.trans (b1.mono (by omega))
  have s1 := B1.size
  have hL0 : ((L : Int) == 0) = false := by simp; omega
  have hLn : ¬ (L : Int) = 0 := by omega
  have hLb : L ≤ 246 := by omega
  have hkk : (0 : Int) ≤ (k : Int) := by omega
  have hkL : (k : Int) ≤ (L : Int) := by omega
  clear fn bn b1 HE hbl hsl hDV hba hev
  go_wp2_with fail
  refine (HD _).mono ?_
  rintro e w2 ⟨rfl, b2⟩
  have f2 : Fa w.heap.size f w2 := (b2.block _ f1.lt).trans f1
  have B2 := B1.trans (b2.mono s1)
  have s2 := b2.size
  have gn := Fa.new w2 Fr.nul
  have g3 := gn.row Fr.nul
  have f3 : Fa w.heap.size f ((w2.alloc (.cells Fr.nul.arr 25)).setRow w2.heap.size Fr.nul.arr) := (setRow_other _ _ _ _ (by have := f1.lt; omega)).trans (f2.alloc _)
  have B3 : Below w.heap.size w ((w2.alloc (.cells Fr.nul.arr 25)).setRow w2.heap.size Fr.nul.arr) := below_row (B2.alloc (by omega) _) (by omega) (by rw [size_alloc]; omega) _
  have l3 := g3.lt
  have hs := frB_same Fr.nul
  have hqn : w.heap.size < w2.heap.size := f2.lt
  clear f1 f2 B1 B2 b2 HD
  generalize hq : w.heap.size = q at *
  go_wp2_with (first | refine gn.sd Fr.nul rfl _ _ rfl rfl rfl ?_ | refine g3.ldw rfl _ rfl rfl ?_ | refine neqw Fr.nul Fr.nul rfl _ _ rfl rfl rfl ?_)
  refine (Stuff_any u _).mono ?_
  rintro e w4 ⟨rfl, b4⟩
  have f4 : Fa q f w4 := (b4.block _ f3.lt).trans f3
  have g4 : Fa w2.heap.size Fr.nul w4 := (b4.block _ l3).trans g3
  have B4 := B3.trans (b4.mono (by omega))
  have s4 : q ≤ w4.heap.size := by have := f4.lt; omega
  clear gn f3 g3 B3 b4
  by_cases h0 : err u.data.toList = 0
  · have hall := (err_zero h0).2
    rw [h0]
    by_cases hb : L + u.size ≤ 65536
    · have hDV := HW.out hall hb
      have hbb : ¬ (65536 : Int) < (L : Int) + (u.size : Int) := by omega
      have hbd : decide ((65536 : Int) < (L : Int) + (u.size : Int)) = false := by simp; omega
      rw [hDV] at HD2
      clear HW hDV h0 hall
      go_wp2_with fail
      refine (HD2 _).mono ?_
      rintro e w5 ⟨rfl, b5⟩
      have g5 : Fa w2.heap.size Fr.nul w5 := (b5.block _ g4.lt).trans g4
      have f5 : Fa q f w5 := (b5.block _ f4.lt).trans f4
      have B5 := B4.trans (b5.mono s4)
      have g6 := g5.row f.plain
      have f6 : Fa q f (w5.setRow w2.heap.size f.plain.arr) := (setRow_other _ _ _ _ (by omega)).trans f5
      have B6 : Below q w (w5.setRow w2.heap.size f.plain.arr) := below_row B5 (by omega) (by have := f5.lt; omega) _
      have hP := r2Plain_any f
      have hs2 := frB_same f.plain
      unfold Fr.val at hP
      clear f4 g4 B4 b5 HD2 f5
      go_wp2_with (first | refine g5.sd f.plain rfl _ _ rfl rfl rfl ?_)
      generalize w5.setRow w2.heap.size f.plain.arr = w6 at *
      have hL6 := Later.some w6
      have hEq := frEq f.plain f.plain
      rw [hs2] at hEq
      have hLV := fun W => lives2_any W
      refine wp_region_later (by kernel_rfl) (by kernel_rfl) ?_
      refine quiet_ld g6 rfl _ rfl rfl ?_
      refine quiet_ld f6 rfl _ rfl rfl ?_
      simp only [Act.put, List.setIfInBounds_toArray, List.set_cons_succ, List.set_cons_zero]
      go_big_quiet_step (first | (go_at_call 16; with_reducible exact later (hP _)))
      refine quiet_eq true rfl _ _ rfl rfl rfl hEq ?_
      simp only [Act.put, List.setIfInBounds_toArray, List.set_cons_succ, List.set_cons_zero]
      repeat (go_big_quiet_step (first | (go_at_call 18; with_reducible exact later (hLV _))))
      refine wpQuiet_nil ?_
      rintro _ ⟨x1, rfl⟩
      go_wp2
      go_ret
      exact ⟨rfl, by rw [hq]; exact B6.trans (x1.below.mono (by have := f6.lt; omega))⟩
    · have hbd : decide ((65536 : Int) < (L : Int) + (u.size : Int)) = true := by simp; omega
      clear HW HD2
      go_wp2_with fail
      refine (lives2_any _).mono ?_
      rintro e w5 ⟨rfl, b5⟩
      go_wp2
      go_ret
      exact ⟨rfl, by rw [hq]; exact B4.trans (b5.mono s4)⟩
  · have hne : (err u.data.toList == 0) = false := by simp [h0]
    clear HW HD2
    go_wp2_with fail
    refine (lives2_any _).mono ?_
    rintro e w5 ⟨rfl, b5⟩
    go_wp2
    go_ret
    exact ⟨rfl, by rw [hq]; exact B4.trans (b5.mono s4)⟩

theorem fcut_walk (f : Fr) (at_ : Int) (hat : 0 ≤ at_ ∧ at_ < 65536) (u : ByteArray) (hu : u.size ≤ 140737488351232) (w : World) :
    Calls Try.prog 7 #[f.val, .int .u16 at_, .string u] w fun e w' => e = .returned (.bool true) ∧ Below w.heap.size w w' := by
  obtain ⟨n, rfl⟩ : ∃ n : Nat, at_ = n := ⟨at_.toNat, by omega⟩
  rcases chk_cases f with h | h
  · exact fcut_ok f n (by omega) u hu w h
  · exact fcut_bad f n u w h
theorem wf_u16_of {z : Int} (h : (Lit.int .u16 z).wf = true) : 0 ≤ z ∧ z < 65536 := by
  have hx : 0 ≤ z ∧ z ≤ 65535 := by simpa [Lit.wf, IntKind.min, IntKind.max, IntKind.signed, IntKind.bits] using h
  omega
end Go.Proofs.Ytpjddhihokgffaa
