/- The law FrameFive returns true whatever frame and places come in. -/
import Derived.Test.YtpjddhihokgffaaLive2
import Derived.Test.YtpjddhihokgffaaTurn
import Derived.Test.YtpjddhihokgffaaUnstuff
namespace Go.Proofs.Ytpjddhihokgffaa
open Go.RowKit Go.Proofs.Bits
set_option linter.unusedVariables false
set_option maxRecDepth 1000000

set_option maxHeartbeats 1000000 in
theorem ffive_bad (f : Fr) (v : Value) (w : World) (h : f.chk = 1) :
    Calls Try.prog 6 #[f.val, v] w fun e w' => e = .returned (.bool true) ∧ Below w.heap.size w w' := by
  have fn := Fa.new w f
  have bn : Below w.heap.size w (w.alloc (.cells f.arr 25)) := (Below.refl _ _).alloc (Nat.le_refl _) _
  have sn := size_alloc w (.cells f.arr 25)
  have HC := fCheck_any f
  have HR := r2Check_any f
  rw [h] at HC HR
  unfold Fr.val at *
  go_enter Try.func6, Try.ntmps6
  go_wp2_with (refine fn.ldw rfl _ rfl rfl ?_)
  refine (HC _).mono ?_
  rintro e w1 ⟨rfl, b1⟩
  have f1 : Fa w.heap.size f w1 := (b1.block _ (by omega)).trans fn
  have B1 := bn.trans (b1.mono (by omega))
  have s1 := B1.size
  clear fn bn b1
  go_wp2_with (refine f1.ldw rfl _ rfl rfl ?_)
  refine (HR _).mono ?_
  rintro e w2 ⟨rfl, b2⟩
  have B2 := B1.trans (b2.mono s1)
  clear f1 B1 b2
  go_wp2_with fail
  refine (lives2_any _).mono ?_
  rintro e w3 ⟨rfl, b3⟩
  go_wp2
  go_ret
  exact ⟨rfl, B2.trans (b3.mono B2.size)⟩

set_option maxHeartbeats 4000000 in
theorem ffive_ok (f : Fr) (v : Value) (l : List UInt8) (w : World) (hB : Bytes w v l) (hl : l.length ≤ 140737488351232) (h : f.chk = 0) :
    Calls Try.prog 6 #[f.val, v] w fun e w' => e = .returned (.bool true) ∧ Below w.heap.size w w' := by
  have fn := Fa.new w f
  have bn : Below w.heap.size w (w.alloc (.cells f.arr 25)) := (Below.refl _ _).alloc (Nat.le_refl _) _
  have sn := size_alloc w (.cells f.arr 25)
  have HC := fCheck_any f
  have HE := fEncode_any f true
  rw [h] at HC HE
  have hX : f.body.all isBit = true := body_all f
  have hXl : f.body.length ≤ 118 ∧ 34 ≤ f.body.length := ⟨body_short f, by rw [body_length]; split <;> omega⟩
  have hX0 : rem f.body = 0 := rem_coded _ (head_all f)
  have hev : encV f true = stuff f.body ++ [49, 48, 49, 49, 49, 49, 49, 49, 49, 49] := by rw [encV, if_pos h]; simp [Fr.bits, flagV]
  have hsl := stuff_body_length f
  have hun : unV (stuff f.body) = (f.body, (stuff f.body).length, 0) := by
    rw [unV, if_pos (err_of (stuff_all _ hX) (by omega)), unstuff_stuff]
  rw [hev] at HE
  unfold Fr.val at *
  generalize f.body = X at *
  generalize stuff X = ST at *
  have hUn := Unstuff_any ⟨ST.toArray⟩
  rw [show (⟨ST.toArray⟩ : ByteArray).data.toList = ST from rfl, hun] at hUn
  have hlen : (⟨(ST ++ [49, 48, 49, 49, 49, 49, 49, 49, 49, 49]).toArray⟩ : ByteArray).size = ST.length + 10 := by simp [ByteArray.size]
  have hcut : (⟨(ST ++ [49, 48, 49, 49, 49, 49, 49, 49, 49, 49]).toArray⟩ : ByteArray).extract 0 ST.length = ⟨ST.toArray⟩ := by
    apply ByteArray.ext
    simp
  generalize (⟨(ST ++ [49, 48, 49, 49, 49, 49, 49, 49, 49, 49]).toArray⟩ : ByteArray) = S at *
  have hB1 := hB
  go_enter Try.func6, Try.ntmps6
  go_wp2_with (refine fn.ldw rfl _ rfl rfl ?_)
  refine (HC _).mono ?_
  rintro e w1 ⟨rfl, b1⟩
  have f1 : Fa w.heap.size f w1 := (b1.block _ (by omega)).trans fn
  have B1 := bn.trans (b1.mono (by omega))
  have s1 := B1.size
  clear fn bn b1 HC
  go_wp2_with (refine f1.ldw rfl _ rfl rfl ?_)
  refine (HE _).mono ?_
  rintro e w2 ⟨rfl, b2⟩
  have B2 := B1.trans (b2.mono s1)
  clear f1 B1 b2 HE
  have hnn : ¬ (ST.length : Int) + 10 < 10 := by omega
  go_wp2_with fail
  refine (hUn _).mono ?_
  rintro e w3 ⟨rfl, b3⟩
  have B3 := B2.trans (b3.mono B2.size)
  have s3 := B3.size
  clear b3 B2 hUn hun hcut hlen hev
  obtain ⟨ao, cap, rfl, hnil, hat⟩ := hB
  obtain ⟨n, hn⟩ : ∃ n, n = X.length := ⟨_, rfl⟩
  have hn1 : 34 ≤ n := by omega
  have hn2 : n ≤ 118 := by omega
  have hXn : X.length = n := hn.symm
  have hconv := run_bytes_of_string (P := Try.prog) w3 9 46 5 ⟨X.toArray⟩ Try.underlying9 Try.underlying46 Try.underlying5
  have hsz : (⟨X.toArray⟩ : ByteArray).size = n := by simp [ByteArray.size, hXn]
  have hR0 := Row.ofText w3 ⟨X.toArray⟩ (grownCap w3 (⟨X.toArray⟩ : ByteArray).size 0 5) 5
  rw [hsz] at hconv hR0
  have HT0 := Turned.start X n hXn hX hX0
  have HAT : ∀ (wr : World), Below w3.heap.size w3 wr → ∀ k (h : k < l.length), ∃ b off, ao = some ⟨b, off, none⟩ ∧ wr.cell? ⟨b, off + k, none⟩ = some (.int .u8 l[k].toNat) := by
    intro wr hbw k hk
    obtain ⟨b, off, ha, hlt, hcell⟩ := hat k hk
    refine ⟨b, off, ha, ?_⟩
    rw [hbw.cell (p := ⟨b, off + k, none⟩) (by show b < w3.heap.size; omega), B3.cell (p := ⟨b, off + k, none⟩) hlt]
    exact hcell
  clear hn hat
  go_wp2_with fail
  go_loopw [11, 12] (fun y i wr => ∃ (k : Nat) (F : List Nat) (L : List UInt8), k ≤ l.length ∧ F.length ≤ 5 ∧ i = .int .i64 k ∧ y = .int .i64 F.length ∧ Turned X L n F ∧ Row wr w3.heap.size (Lib.byteCells L) ∧ Below w3.heap.size w3 wr) (fun _ i _ => l.length - (intOf i).toNat)
  case atStart => exact ⟨0, [], X, by omega, by simp, rfl, rfl, HT0, hR0, ((Below.refl _ _).alloc (Nat.le_refl _) _).drew⟩
  case round =>
    obtain ⟨k, F, L, hk, hF, rfl, rfl, hT, hR, hb⟩ := hrel
    by_cases hgo : k < l.length ∧ F.length < 5
    · obtain ⟨hkl, hF5⟩ := hgo
      have hd1 : decide ((k : Int) < (l.length : Int)) = true := by simp; omega
      have hd2 : decide ((F.length : Int) < 5) = true := by simp; omega
      obtain ⟨b, off, rfl, hcat⟩ := HAT wr hb k hkl
      have hcl := l[k].toNat_lt
      have HTT : Hid (Turned X L n F) := hT
      have hLl := hT.len
      have hj : l[k].toNat % n < n := Nat.mod_lt _ (by omega)
      clear hT
      go_wp2_with fail
      rw [show ((l[k].toNat : Int) % (n : Int)) = ((l[k].toNat % n : Nat) : Int) by simp]
      generalize l[k].toNat % n = d at hj ⊢
      have hdL : d < L.length := by omega
      have hdX : d < X.length := by omega
      have hdi : (d : Int) < (n : Int) := by omega
      have hd0 : (0 : Int) ≤ (d : Int) := by omega
      have hcell := hR.cell d (by rw [Lib.byteCells_length]; omega)
      have hfree := hR.free d (by rw [Lib.byteCells_length]; omega)
      rw [show (Lib.byteCells L)[d]'(by rw [Lib.byteCells_length]; omega) = .int .u8 L[d].toNat by simp [Lib.byteCells]] at hcell
      go_quiet (fail)
      have hRq : Row (wr.drewN nq) w3.heap.size (Lib.byteCells L) := hR.kept (by rw [heap_drewN])
      have hbq : Below w3.heap.size w3 (wr.drewN nq) := below_drawn hb nq
      by_cases he : L[d]? = X[d]?
      · have hLX : L[d] = X[d] := by
          rw [List.getElem?_eq_getElem hdL, List.getElem?_eq_getElem hdX] at he
          exact Option.some.inj he
        have hbt : ((L[d].toNat : Int) == (({ data := X.toArray } : ByteArray)[d]'(by simpa [ByteArray.size] using hdX)).toNat) = true := by
          rw [beq_iff_eq, hLX]
          rfl
        have hTn := HTT.out.step hXn hX d hj hdL he
        have hbc : L[d].toNat = 48 ∨ L[d].toNat = 49 := by
          have := HTT.out.bits
          rw [List.all_eq_true] at this
          exact isBit_cases (this _ (List.getElem_mem hdL))
        have hR2 := hRq.set d (.int .u8 (oth L[d]).toNat)
        rw [byteCells_set] at hR2
        have HB : Hid ((97 : Int) - (L[d].toNat : Int) = ((oth L[d]).toNat : Int)) := num_oth L[d] hbc
        have HTN : Hid (Turned X (L.set d (oth L[d])) n ((n - 1 - d) :: F)) := hTn
        clear he hTn hLX
        go_wp2
        go_roundw
        case rel => exact ⟨k + 1, (n - 1 - d) :: F, L.set d (oth L[d]), by omega, by simp; omega, by go_num, val_int (by simp), HTN.out, by rw [HB.out]; exact hR2, hbq.setCell (p := ⟨w3.heap.size, d, none⟩) (Nat.le_refl _) _⟩
        case measure => simp [intOf]; omega
      · have hLX : L[d] ≠ X[d] := by
          intro e
          rw [List.getElem?_eq_getElem hdL, List.getElem?_eq_getElem hdX, e] at he
          exact he rfl
        have hbt : ((L[d].toNat : Int) == (({ data := X.toArray } : ByteArray)[d]'(by simpa [ByteArray.size] using hdX)).toNat) = false := by
          rw [beq_eq_false_iff_ne]
          intro e
          exact hLX (UInt8.toNat_inj.1 (by have e2 : ((({ data := X.toArray } : ByteArray)[d]'(by simpa [ByteArray.size] using hdX)).toNat : Int) = (X[d].toNat : Int) := rfl
                                           omega))
        clear he hLX
        go_wp2
        go_roundw
        case rel => exact ⟨k + 1, F, L, by omega, by omega, by go_num, rfl, HTT.out, hRq, hbq⟩
        case measure => simp [intOf]; omega
    · have hre : (rem L != 0) = decide (0 < (F.length : Int)) := by
        rw [hT.sum]
        by_cases hF0 : F = []
        · subst hF0; rfl
        · have h1 := five F hT.once hF (fun j hj => by have := hT.lt j hj; omega) hF0
          have h2 : (xall F != 0) = true := by rw [bne_iff_ne]; exact h1
          have h3 : 0 < F.length := List.length_pos_iff.2 hF0
          rw [h2]
          symm
          simp
          omega
      have hLl := hT.len
      have hLb := hT.bits
      have hp1 := hR.part 0 (n - 15) (grownCap w3 n 0 5) (by omega)
      simp only [List.drop_zero] at hp1
      have hp2 : ∀ W cap, W.heap[w3.heap.size]? = wr.heap[w3.heap.size]? → (convert 46 9 (.slice (some ⟨w3.heap.size, n - 15, none⟩) (n - (n - 15)) cap)).run Try.prog W = .ok (.string ⟨(L.drop (n - 15)).toArray⟩) W := by
        intro W cap hW
        have := (hR.kept hW).part (n - 15) (n - (n - 15)) cap (by omega)
        rw [List.take_of_length_le (by simp; omega)] at this
        exact this
      have hw := rem_word (L.take (n - 15)) (L.drop (n - 15)) (by rw [List.all_eq_true] at hLb ⊢; exact fun c hc => hLb c (List.mem_of_mem_take hc)) (by rw [List.all_eq_true] at hLb ⊢; exact fun c hc => hLb c (List.mem_of_mem_drop hc)) (by simp; omega)
      rw [List.take_append_drop] at hw
      have hcv : crcV (L.take (n - 15)) = crc (L.take (n - 15)) := by rw [crcV, if_pos (err_of (by rw [List.all_eq_true] at hLb ⊢; exact fun c hc => hLb c (List.mem_of_mem_take hc)) (by simp; omega))]
      have hvv : valV (L.drop (n - 15)) = val (L.drop (n - 15)) := by rw [valV, if_pos (err_of (by rw [List.all_eq_true] at hLb ⊢; exact fun c hc => hLb c (List.mem_of_mem_drop hc)) (by simp; omega)), if_neg (by simp; omega)]
      have hcl := crc_lt (L.take (n - 15))
      have hvl : val (L.drop (n - 15)) < 2 ^ 15 := by
        have := val_lt (L.drop (n - 15)) (by rw [List.all_eq_true] at hLb ⊢; exact fun c hc => hLb c (List.mem_of_mem_drop hc))
        rw [List.length_drop, hLl, show n - (n - 15) = 15 by omega] at this
        exact this
      have HRE : Hid ((((crc (L.take (n - 15)) : Nat) : Int) != ((val (L.drop (n - 15)) : Nat) : Int)) = decide (0 < (F.length : Int))) := by
        show _ = _
        rw [← hre, hw, Bool.eq_iff_iff, bne_iff_ne, bne_iff_ne]
        constructor
        · intro h1 h2
          exact h1 (by rw [xor_zero h2])
        · intro h1 h2
          exact h1 (by rw [show crc (L.take (n - 15)) = val (L.drop (n - 15)) by omega, Nat.xor_self])
      have hCR := CRC_any ⟨(L.take (n - 15)).toArray⟩
      have hVA := Value_any ⟨(L.drop (n - 15)).toArray⟩
      rw [show (⟨(L.take (n - 15)).toArray⟩ : ByteArray).data.toList = L.take (n - 15) from rfl, hcv] at hCR
      rw [show (⟨(L.drop (n - 15)).toArray⟩ : ByteArray).data.toList = L.drop (n - 15) from rfl, hvv] at hVA
      have hgl : w3.heap.size < wr.heap.size := hR.lt
      have sb := hb.size
      clear hre hLl hLb hw hcv hvv hT HT0 hR0 hconv
      generalize crc (L.take (n - 15)) = cr at *
      generalize val (L.drop (n - 15)) = vl at *
      have hgc : n ≤ grownCap w3 n 0 5 := grownCap_ge w3 n 0 5
      have hsub : ((n : Int) - 15) = ((n - 15 : Nat) : Int) := by omega
      by_cases hkl : k < l.length
      · have hd1 : decide ((k : Int) < (l.length : Int)) = true := by simp; omega
        have hd2 : decide ((F.length : Int) < 5) = false := by simp; omega
        clear hgo
        go_wp2_with fail
        refine (hCR _).mono ?_
        rintro e w5 ⟨rfl, b5⟩
        have hp3 := fun cap => hp2 w5 cap (b5.block _ hgl)
        have s5 := b5.size
        go_wp2_with fail
        refine (hVA _).mono ?_
        rintro e w6 ⟨rfl, b6⟩
        have s6 := b6.size
        have HX := HRE.out
        go_wp2_with fail
        refine (lives2_any _).mono ?_
        rintro e w7 ⟨rfl, b7⟩
        go_wp2
        go_ret
        exact ⟨rfl, ((((B3.trans (hb.mono (by omega))).trans (b5.mono (by omega))).trans (b6.mono (by omega))).trans (b7.mono (by omega)))⟩
      · have hd1 : decide ((k : Int) < (l.length : Int)) = false := by simp; omega
        clear hgo
        go_wp2_with fail
        refine (hCR _).mono ?_
        rintro e w5 ⟨rfl, b5⟩
        have hp3 := fun cap => hp2 w5 cap (b5.block _ hgl)
        have s5 := b5.size
        go_wp2_with fail
        refine (hVA _).mono ?_
        rintro e w6 ⟨rfl, b6⟩
        have s6 := b6.size
        have HX := HRE.out
        go_wp2_with fail
        refine (lives2_any _).mono ?_
        rintro e w7 ⟨rfl, b7⟩
        go_wp2
        go_ret
        exact ⟨rfl, ((((B3.trans (hb.mono (by omega))).trans (b5.mono (by omega))).trans (b6.mono (by omega))).trans (b7.mono (by omega)))⟩

theorem ffive_walk (f : Fr) (v : Value) (l : List UInt8) (w : World) (hB : Bytes w v l) (hl : l.length ≤ 140737488351232) :
    Calls Try.prog 6 #[f.val, v] w fun e w' => e = .returned (.bool true) ∧ Below w.heap.size w w' := by
  rcases chk_cases f with h | h
  · exact ffive_ok f v l w hB hl h
  · exact ffive_bad f v w h
end Go.Proofs.Ytpjddhihokgffaa
