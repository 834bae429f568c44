/- The law BitsFive returns true whatever text and places come in. -/
import Derived.Test.YtcpgpnilglbmoaaLawBursts
import Derived.Test.YtcpgpnilglbmoaaMathG
import Derived.Test.YtcpgpnilglbmoaaCopy
namespace Go.Proofs.Ytcpgpnilglbmoaa
open Go.RowKit Go.Proofs.Bits
set_option linter.unusedVariables false

set_option maxHeartbeats 400000 in
theorem five_bad (s : ByteArray) (v : Value) (w : World) (hbig : s.size ≤ 140737488351232) (h : err s.data.toList ≠ 0 ∨ 127 < s.size + 15) :
    Calls Try.prog 6 #[.string s, v] w fun e w' => e = .returned (.bool true) ∧ Below w.heap.size w w' := by
  go_enter Try.func6, Try.ntmps6
  go_wp2_with fail
  refine (word_bad s _ hbig h).mono ?_
  rintro e w1 ⟨⟨v, rfl⟩, b1⟩
  clear h
  go_wp2_with fail
  refine (lives_any _).mono ?_
  rintro e w2 ⟨rfl, b2⟩
  go_wp2
  go_ret
  exact ⟨rfl, b1.trans (b2.mono b1.size)⟩

/-- What holds of a word X of n bits, some of them turned about: those at the places F, told from the end. -/
structure Turned (X L : List UInt8) (n : Nat) (F : List Nat) : Prop where
  len : L.length = n
  bits : L.all isBit = true
  sum : rem L = xall F
  once : F.Nodup
  lt : ∀ j ∈ F, j < n
  same : ∀ k (hk : k < n), (L[k]? = X[k]? ↔ n - 1 - k ∉ F)
theorem Turned.start (X : List UInt8) (n : Nat) (h1 : X.length = n) (h2 : X.all isBit = true) (h3 : rem X = 0) : Turned X X n [] :=
  ⟨h1, h2, h3, List.nodup_nil, by simp, by simp⟩
theorem Turned.step {X L : List UInt8} {n : Nat} {F : List Nat} (h : Turned X L n F) (hX : X.length = n) (hXb : X.all isBit = true) (k : Nat) (hk : k < n) (hkL : k < L.length) (he : L[k]? = X[k]?) : Turned X (L.set k (oth L[k])) n ((n - 1 - k) :: F) := by
  have hnot := (h.same k hk).1 he
  refine ⟨by rw [List.length_set]; exact h.len, all_flip L k hkL h.bits, ?_, List.nodup_cons.2 ⟨hnot, h.once⟩, ?_, ?_⟩
  · rw [rem_flip L k hkL h.bits, h.sum, h.len]; rfl
  · intro j hj
    rcases List.mem_cons.1 hj with rfl | hj
    · omega
    · exact h.lt j hj
  · intro j hj
    by_cases e : j = k
    · subst e
      rw [List.getElem?_set_self (by omega)]
      have hkx : j < X.length := by omega
      rw [← he, List.getElem?_eq_getElem hkL]
      constructor
      · intro h2
        exact absurd (Option.some.inj h2) (oth_ne _)
      · intro h2
        exact absurd (List.mem_cons_self) h2
    · rw [List.getElem?_set_ne (Ne.symm e), h.same j hj]
      simp only [List.mem_cons, not_or]
      constructor
      · intro h2; exact ⟨by omega, h2⟩
      · exact fun h2 => h2.2

theorem heap_drewN (w : World) (n : Nat) : (w.drewN n).heap = w.heap := by
  induction n with
  | zero => rfl
  | succ n ih => exact ih
theorem below_drawn {B : Nat} {a w : World} (h : Below B a w) (n : Nat) : Below B a (w.drewN n) := by
  induction n with
  | zero => exact h
  | succ n ih => exact ih.drew

set_option maxHeartbeats 1000000 in
theorem five_ok (s : ByteArray) (v : Value) (l : List UInt8) (w : World) (hB : Bytes w v l) (hl : l.length ≤ 140737488351232) (h0 : err s.data.toList = 0) (hs : s.size + 15 ≤ 127) :
    Calls Try.prog 6 #[.string s, v] w fun e w' => e = .returned (.bool true) ∧ Below w.heap.size w w' := by
  obtain ⟨_, hall⟩ := err_zero h0
  have hX : (s.data.toList ++ numL (crc s.data.toList) 15).all isBit = true := by
    rw [List.all_append, hall, numL_all]; rfl
  have hXl : (s.data.toList ++ numL (crc s.data.toList) 15).length = s.size + 15 := by rw [List.length_append, numL_length, size_len]
  have hX0 := rem_coded _ hall
  obtain ⟨ao, cap, rfl, hnil, hat⟩ := hB
  go_enter Try.func6, Try.ntmps6
  go_wp2_with fail
  refine (word_ok s _ h0 hs).mono ?_
  rintro e w1 ⟨rfl, b1⟩
  have HH : Hid (err s.data.toList = 0) := h0
  clear h0 hall
  generalize s.data.toList ++ numL (crc s.data.toList) 15 = X at hX hXl hX0 ⊢
  obtain ⟨n, hn⟩ : ∃ n, n = s.size + 15 := ⟨_, rfl⟩
  rw [← hn] at hXl
  have hn1 : 15 ≤ n := by omega
  have hn2 : n ≤ 127 := by omega
  have hconv := run_bytes_of_string (P := Try.prog) w1 9 35 5 ⟨X.toArray⟩ Try.underlying9 Try.underlying35 Try.underlying5
  have hsz : (⟨X.toArray⟩ : ByteArray).size = n := by simp [ByteArray.size, hXl]
  have hR0 := Row.ofText w1 ⟨X.toArray⟩ (grownCap w1 (⟨X.toArray⟩ : ByteArray).size 0 5) 5
  rw [hsz] at hconv hR0
  have HN : Hid (n = s.size + 15) := hn
  have HT0 := Turned.start X n hXl hX hX0
  have s1 := b1.size
  have hat1 : ∀ (wr : World), Below w1.heap.size w1 wr → ∀ k (h : k < l.length), ∃ b off, ao = some ⟨b, off, none⟩ ∧ wr.cell? ⟨b, off + k, none⟩ = some (.int .u8 l[k].toNat) := by
    intro wr hbw k hk
    obtain ⟨b, off, ha, hlt, hcell⟩ := hat k hk
    refine ⟨b, off, ha, ?_⟩
    rw [hbw.cell (p := ⟨b, off + k, none⟩) (by show b < w1.heap.size; omega), b1.cell (p := ⟨b, off + k, none⟩) hlt]
    exact hcell
  have HAT := hat1
  clear hn hat hat1
  go_wp2_with fail
  go_loopw [8, 9] (fun y i wr => ∃ (k : Nat) (F : List Nat) (L : List UInt8), k ≤ l.length ∧ F.length ≤ 5 ∧ i = .int .i64 k ∧ y = .int .i64 F.length ∧ Turned X L n F ∧ Row wr w1.heap.size (Lib.byteCells L) ∧ Below w1.heap.size w1 wr) (fun _ i _ => l.length - (intOf i).toNat)
  case atStart => exact ⟨0, [], X, by omega, by simp, rfl, rfl, HT0, hR0, ((Below.refl _ _).alloc (Nat.le_refl _) _).drew⟩
  case round =>
    obtain ⟨k, F, L, hk, hF, rfl, rfl, hT, hR, hb⟩ := hrel
    by_cases hgo : k < l.length ∧ F.length < 5
    · obtain ⟨hkl, hF5⟩ := hgo
      have hd1 : decide ((k : Int) < (l.length : Int)) = true := by simp; omega
      have hd2 : decide ((F.length : Int) < 5) = true := by simp; omega
      obtain ⟨b, off, rfl, hcat⟩ := HAT wr hb k hkl
      have hcl := l[k].toNat_lt
      have HTT : Hid (Turned X L n F) := hT
      have hLl := hT.len
      have hj : l[k].toNat % n < n := Nat.mod_lt _ (by omega)
      clear hT
      go_wp2_with fail
      rw [show ((l[k].toNat : Int) % (n : Int)) = ((l[k].toNat % n : Nat) : Int) by simp]
      generalize l[k].toNat % n = d at hj ⊢
      have hdL : d < L.length := by omega
      have hdX : d < X.length := by omega
      have hdi : (d : Int) < (n : Int) := by omega
      have hd0 : (0 : Int) ≤ (d : Int) := by omega
      have hcell := hR.cell d (by rw [Lib.byteCells_length]; omega)
      have hfree := hR.free d (by rw [Lib.byteCells_length]; omega)
      rw [show (Lib.byteCells L)[d]'(by rw [Lib.byteCells_length]; omega) = .int .u8 L[d].toNat by simp [Lib.byteCells]] at hcell
      go_quiet (fail)
      have hRq : Row (wr.drewN nq) w1.heap.size (Lib.byteCells L) := hR.kept (by rw [heap_drewN])
      have hbq : Below w1.heap.size w1 (wr.drewN nq) := below_drawn hb nq
      by_cases he : L[d]? = X[d]?
      · have hLX : L[d] = X[d] := by
          rw [List.getElem?_eq_getElem hdL, List.getElem?_eq_getElem hdX] at he
          exact Option.some.inj he
        have hbt : ((L[d].toNat : Int) == (({ data := X.toArray } : ByteArray)[d]'(by simpa [ByteArray.size] using hdX)).toNat) = true := by
          rw [beq_iff_eq, hLX]
          rfl
        have hTn := HTT.out.step hXl hX d hj hdL he
        have hbc : L[d].toNat = 48 ∨ L[d].toNat = 49 := by
          have := HTT.out.bits
          rw [List.all_eq_true] at this
          exact isBit_cases (this _ (List.getElem_mem hdL))
        have hR2 := hRq.set d (.int .u8 (oth L[d]).toNat)
        rw [byteCells_set] at hR2
        have HB : Hid ((97 : Int) - (L[d].toNat : Int) = ((oth L[d]).toNat : Int)) := num_oth L[d] hbc
        have HTN : Hid (Turned X (L.set d (oth L[d])) n ((n - 1 - d) :: F)) := hTn
        clear he hTn hLX
        go_wp2
        go_roundw
        case rel => exact ⟨k + 1, (n - 1 - d) :: F, L.set d (oth L[d]), by omega, by simp; omega, by go_num, val_int (by simp), HTN.out, by rw [HB.out]; exact hR2, hbq.setCell (p := ⟨w1.heap.size, d, none⟩) (Nat.le_refl _) _⟩
        case measure => simp [intOf]; omega
      · have hLX : L[d] ≠ X[d] := by
          intro e
          rw [List.getElem?_eq_getElem hdL, List.getElem?_eq_getElem hdX, e] at he
          exact he rfl
        have hbt : ((L[d].toNat : Int) == (({ data := X.toArray } : ByteArray)[d]'(by simpa [ByteArray.size] using hdX)).toNat) = false := by
          rw [beq_eq_false_iff_ne]
          intro e
          exact hLX (UInt8.toNat_inj.1 (by have e2 : ((({ data := X.toArray } : ByteArray)[d]'(by simpa [ByteArray.size] using hdX)).toNat : Int) = (X[d].toNat : Int) := rfl
                                           omega))
        clear he hLX
        go_wp2
        go_roundw
        case rel => exact ⟨k + 1, F, L, by omega, by omega, by go_num, rfl, HTT.out, hRq, hbq⟩
        case measure => simp [intOf]; omega
    · have hre : (rem L != 0) = decide (0 < (F.length : Int)) := by
        rw [hT.sum]
        by_cases hF0 : F = []
        · subst hF0; rfl
        · have h1 := five F hT.once hF (fun j hj => by have := hT.lt j hj; omega) hF0
          have h2 : (xall F != 0) = true := by rw [bne_iff_ne]; exact h1
          have h3 : 0 < F.length := List.length_pos_iff.2 hF0
          rw [h2]
          symm
          simp
          omega
      have HRE : Hid ((rem L != 0) = decide (0 < (F.length : Int))) := hre
      have htx := hR.text (grownCap w1 n 0 5)
      have hLl := hT.len
      have hLb := hT.bits
      rw [hLl] at htx
      have HL : Hid (L.length = n) := hLl
      clear hre hLl hT
      by_cases hkl : k < l.length
      · have hd1 : decide ((k : Int) < (l.length : Int)) = true := by simp; omega
        have hd2 : decide ((F.length : Int) < 5) = false := by simp; omega
        clear hgo
        go_wp2_with fail
        refine (told_ok _ _ hLb (by simp [ByteArray.size, HL.out]; omega) (by simp [ByteArray.size, HL.out]; omega)).mono ?_
        rintro e w5 ⟨rfl, b5⟩
        rw [show (⟨L.toArray⟩ : ByteArray).data.toList = L from rfl, HRE.out]
        go_wp2_with fail
        refine (lives_any _).mono ?_
        rintro e w6 ⟨rfl, b6⟩
        go_wp2
        go_ret
        have s2 := hb.size
        have s5 := b5.size
        exact ⟨rfl, ((b1.trans (hb.mono (by omega))).trans (b5.mono (by omega))).trans (b6.mono (by omega))⟩
      · have hd1 : decide ((k : Int) < (l.length : Int)) = false := by simp; omega
        clear hgo
        go_wp2_with fail
        refine (told_ok _ _ hLb (by simp [ByteArray.size, HL.out]; omega) (by simp [ByteArray.size, HL.out]; omega)).mono ?_
        rintro e w5 ⟨rfl, b5⟩
        rw [show (⟨L.toArray⟩ : ByteArray).data.toList = L from rfl, HRE.out]
        go_wp2_with fail
        refine (lives_any _).mono ?_
        rintro e w6 ⟨rfl, b6⟩
        go_wp2
        go_ret
        have s2 := hb.size
        have s5 := b5.size
        exact ⟨rfl, ((b1.trans (hb.mono (by omega))).trans (b5.mono (by omega))).trans (b6.mono (by omega))⟩

theorem five_walk (s : ByteArray) (v : Value) (l : List UInt8) (w : World) (hB : Bytes w v l) (hl : l.length ≤ 140737488351232) (hbig : s.size ≤ 140737488351232) :
    Calls Try.prog 6 #[.string s, v] w fun e w' => e = .returned (.bool true) ∧ Below w.heap.size w w' := by
  by_cases h0 : err s.data.toList = 0
  · by_cases hs : s.size + 15 ≤ 127
    · exact five_ok s v l w hB hl h0 hs
    · exact five_bad s v w hbig (.inr (by omega))
  · exact five_bad s v w hbig (.inl h0)
end Go.Proofs.Ytcpgpnilglbmoaa
