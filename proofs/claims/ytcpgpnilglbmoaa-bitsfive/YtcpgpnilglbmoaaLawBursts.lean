/- The law BitsBursts returns true whatever text, place and bits come in. -/
import Derived.Test.YtcpgpnilglbmoaaWord
namespace Go.Proofs.Ytcpgpnilglbmoaa
open Go.RowKit Go.Proofs.Bits
set_option linter.unusedVariables false

set_option maxHeartbeats 400000 in
theorem bursts_bad (s : ByteArray) (a c : Int) (w : World) (hbig : s.size ≤ 140737488351232) (h : err s.data.toList ≠ 0 ∨ 127 < s.size + 15) :
    Calls Try.prog 7 #[.string s, .int .u8 a, .int .u16 c] w fun e w' => e = .returned (.bool true) ∧ Below w.heap.size w w' := by
  go_enter Try.func7, Try.ntmps7
  go_wp2_with fail
  refine (word_bad s _ hbig h).mono ?_
  rintro e w1 ⟨⟨v, rfl⟩, b1⟩
  clear h
  go_wp2_with fail
  refine (lives_any _).mono ?_
  rintro e w2 ⟨rfl, b2⟩
  go_wp2
  go_ret
  exact ⟨rfl, b1.trans (b2.mono b1.size)⟩

/-- One bit more of a burst. -/
theorem burst_no (n f i v : Nat) (hi : i < 15) (hf : f + i < n) (hv : v < 2 ^ i) : shs (n - f - i) v = shs (n - f - (i + 1)) (v * 2) ∧ v * 2 < 2 ^ (i + 1) := by
  have h14 : v < 16384 := Nat.lt_of_lt_of_le hv (Nat.pow_le_pow_right (n := 2) (i := i) (j := 14) (by omega) (by omega))
  refine ⟨?_, by rw [Nat.pow_succ]; omega⟩
  rw [show n - f - i = (n - f - (i + 1)) + 1 by omega, shs_add, show shs 1 v = sh v from rfl, sh_small v h14]
theorem burst_yes (n f i v : Nat) (hi : i < 15) (hf : f + i < n) (hv : v < 2 ^ i) : shs (n - f - i) v ^^^ shs (n - 1 - (f + i)) 1 = shs (n - f - (i + 1)) (v * 2 + 1) ∧ v * 2 + 1 < 2 ^ (i + 1) := by
  have h14 : v < 16384 := Nat.lt_of_lt_of_le hv (Nat.pow_le_pow_right (n := 2) (i := i) (j := 14) (by omega) (by omega))
  refine ⟨?_, by rw [Nat.pow_succ]; omega⟩
  rw [(burst_no n f i v hi hf hv).1, show n - 1 - (f + i) = n - f - (i + 1) by omega, ← shs_xor _ _ _ (by omega) (by omega), even_xor_one]
theorem all_flip (l : List UInt8) (k : Nat) (hk : k < l.length) (h : l.all isBit = true) : (l.set k (oth l[k])).all isBit = true := by
  rw [List.all_eq_true] at h ⊢
  intro c hc
  rcases List.mem_or_eq_of_mem_set hc with hc | rfl
  · exact h c hc
  · exact isBit_of (oth_bit _)
theorem byteCells_set (l : List UInt8) (k : Nat) (c : UInt8) : (Lib.byteCells l).set k (.int .u8 c.toNat) = Lib.byteCells (l.set k c) := by
  simp [Lib.byteCells, List.map_set]
theorem bne_double (v : Nat) : (v != 0) = (v * 2 != 0) := by
  by_cases h : v = 0
  · subst h; rfl
  · have h1 : (v != 0) = true := by rw [bne_iff_ne]; exact h
    have h2 : (v * 2 != 0) = true := by rw [bne_iff_ne]; omega
    rw [h1, h2]
theorem num_oth (c : UInt8) (hc : c.toNat = 48 ∨ c.toNat = 49) : (97 : Int) - (c.toNat : Int) = ((oth c).toNat : Int) := by
  rcases hc with hc | hc
  · rw [hc, oth, if_pos (UInt8.toNat_inj.1 hc)]; rfl
  · rw [hc, oth, if_neg (by intro e; rw [e] at hc; simp at hc)]; rfl

set_option maxHeartbeats 1000000 in
theorem bursts_ok (s : ByteArray) (a c : Nat) (w : World) (ha : a < 256) (hc : c < 65536) (h0 : err s.data.toList = 0) (hs : s.size + 15 ≤ 127) :
    Calls Try.prog 7 #[.string s, .int .u8 a, .int .u16 c] w fun e w' => e = .returned (.bool true) ∧ Below w.heap.size w w' := by
  obtain ⟨_, hall⟩ := err_zero h0
  have hX : (s.data.toList ++ numL (crc s.data.toList) 15).all isBit = true := by
    rw [List.all_append, hall, numL_all]; rfl
  have hXl : (s.data.toList ++ numL (crc s.data.toList) 15).length = s.size + 15 := by rw [List.length_append, numL_length, size_len]
  have hX0 := rem_coded _ hall
  go_enter Try.func7, Try.ntmps7
  go_wp2_with fail
  refine (word_ok s _ h0 hs).mono ?_
  rintro e w1 ⟨rfl, b1⟩
  have HH : Hid (err s.data.toList = 0) := h0
  clear h0 hall
  generalize s.data.toList ++ numL (crc s.data.toList) 15 = X at hX hXl hX0 ⊢
  obtain ⟨n, hn⟩ : ∃ n, n = s.size + 15 := ⟨_, rfl⟩
  rw [← hn] at hXl
  have hn1 : 15 ≤ n := by omega
  have hn2 : n ≤ 127 := by omega
  have hconv := run_bytes_of_string (P := Try.prog) w1 9 35 5 ⟨X.toArray⟩ Try.underlying9 Try.underlying35 Try.underlying5
  have hsz : (⟨X.toArray⟩ : ByteArray).size = n := by simp [ByteArray.size, hXl]
  have hR0 := Row.ofText w1 ⟨X.toArray⟩ (grownCap w1 (⟨X.toArray⟩ : ByteArray).size 0 5) 5
  rw [hsz] at hconv hR0
  have HN : Hid (n = s.size + 15) := hn
  clear hn hsz
  go_wp2_with fail
  have hfm : ((a : Int) % (n : Int)) = ((a % n : Nat) : Int) := by simp
  rw [hfm]
  have hfn : a % n < n := Nat.mod_lt _ (by omega)
  clear hfm
  generalize a % n = f at hfn ⊢
  go_loopw [11, 12] (fun y i wr => ∃ (k v : Nat) (L : List UInt8), k ≤ 15 ∧ f + k ≤ n ∧ i = .int .i64 k ∧ y = .bool (v != 0) ∧ v < 2 ^ k ∧ L.length = n ∧ L.all isBit = true ∧ rem L = shs (n - f - k) v ∧ Row wr w1.heap.size (Lib.byteCells L) ∧ Below w1.heap.size w1 wr) (fun _ i _ => 15 - (intOf i).toNat)
  case atStart => exact ⟨0, 0, X, by omega, by omega, rfl, rfl, by omega, hXl, hX, by rw [hX0, shs_zero], hR0, ((Below.refl _ _).alloc (Nat.le_refl _) _).drew⟩
  case round =>
    obtain ⟨k, v, L, hk, hfk, rfl, rfl, hv, hLl, hL, hrem, hR, hb⟩ := hrel
    by_cases hgo : k < 15 ∧ f + k < n
    · obtain ⟨hk15, hfk2⟩ := hgo
      have hd1 : decide ((k : Int) < 15) = true := by simp; omega
      have hd2 : decide ((f : Int) + (k : Int) < (n : Int)) = true := by simp; omega
      have hkL : f + k < L.length := by omega
      have hbc : L[f + k].toNat = 48 ∨ L[f + k].toNat = 49 := by
        rw [List.all_eq_true] at hL
        exact isBit_cases (hL _ (List.getElem_mem hkL))
      have hcell := hR.cell (f + k) (by rw [Lib.byteCells_length]; omega)
      have hfree := hR.free (f + k) (by rw [Lib.byteCells_length]; omega)
      rw [show (Lib.byteCells L)[f + k]'(by rw [Lib.byteCells_length]; omega) = .int .u8 L[f + k].toNat by simp [Lib.byteCells]] at hcell
      have hcc : ((c : Int) / 2 ^ k) = ((c / 2 ^ k : Nat) : Int) := by simp
      have hcd : c / 2 ^ k < 65536 := Nat.lt_of_le_of_lt (Nat.div_le_self _ _) hc
      have hand : bits BinOp.and IntKind.u16 ((c : Int) / 2 ^ k) 1 = ((c / 2 ^ k % 2 : Nat) : Int) := by
        rw [hcc, show (1 : Int) = ((1 : Nat) : Int) from rfl, u16_and_nat _ _ hcd (by omega), nat_mask1]
      by_cases hbit : c / 2 ^ k % 2 = 1
      · have hb1 : (bits BinOp.and IntKind.u16 ((c : Int) / 2 ^ k) 1 == 1) = true := by rw [hand, hbit]; rfl
        clear hcc hcd hand hbit
        have HB := num_oth L[f + k] hbc
        have hR2 := hR.set (f + k) (.int .u8 (oth L[f + k]).toNat)
        rw [byteCells_set] at hR2
        have hst := burst_yes n f k v hk15 hfk2 hv
        have hrem2 : rem (L.set (f + k) (oth L[f + k])) = shs (n - f - (k + 1)) (v * 2 + 1) := by
          rw [rem_flip L (f + k) hkL hL, hrem, hLl, hst.1]
        have hall2 := all_flip L (f + k) hkL hL
        have HRM : Hid (rem (L.set (f + k) (oth L[f + k])) = shs (n - f - (k + 1)) (v * 2 + 1)) := hrem2
        have HL : Hid (L.length = n) := hLl
        clear hrem hrem2 hLl
        go_wp2
        go_roundw
        case rel => exact ⟨k + 1, v * 2 + 1, L.set (f + k) (oth L[f + k]), by omega, by omega, by go_num, congrArg Value.bool (by symm; rw [bne_iff_ne]; omega), hst.2, by rw [List.length_set]; exact HL.out, hall2, HRM.out, hR2, hb.setCell (p := ⟨w1.heap.size, f + k, none⟩) (Nat.le_refl _) _⟩
        case measure => simp [intOf]; omega
      · have hb1 : (bits BinOp.and IntKind.u16 ((c : Int) / 2 ^ k) 1 == 1) = false := by rw [hand]; simp; omega
        clear hcc hcd hand hbit
        have hst := burst_no n f k v hk15 hfk2 hv
        have HRM : Hid (rem L = shs (n - f - (k + 1)) (v * 2)) := by
          show rem L = _
          rw [hrem, hst.1]
        have HL : Hid (L.length = n) := hLl
        clear hrem hLl
        go_wp2
        go_roundw
        case rel => exact ⟨k + 1, v * 2, L, by omega, by omega, by go_num, congrArg Value.bool (bne_double v), hst.2, HL.out, hL, HRM.out, hR, hb⟩
        case measure => simp [intOf]; omega
    · have hv15 : v < 32768 := Nat.lt_of_lt_of_le hv (Nat.pow_le_pow_right (n := 2) (i := k) (j := 15) (by omega) hk)
      have hre : (rem L != 0) = (v != 0) := by
        rw [hrem]
        by_cases h0 : v = 0
        · subst h0; rw [shs_zero]
        · have : shs (n - f - k) v ≠ 0 := fun h => h0 (shs_inj0 _ _ hv15 h)
          have h1 : (v != 0) = true := by rw [bne_iff_ne]; exact h0
          have h2 : (shs (n - f - k) v != 0) = true := by rw [bne_iff_ne]; exact this
          rw [h1, h2]
      have HRE : Hid ((rem L != 0) = (v != 0)) := hre
      have htx := hR.text (grownCap w1 n 0 5)
      rw [hLl] at htx
      have HL : Hid (L.length = n) := hLl
      clear hrem hre hLl
      by_cases hk15 : k < 15
      · have hd1 : decide ((k : Int) < 15) = true := by simp; omega
        have hd2 : decide ((f : Int) + (k : Int) < (n : Int)) = false := by simp; omega
        clear hgo
        go_wp2_with fail
        refine (told_ok _ _ hL (by simp [ByteArray.size, HL.out]; omega) (by simp [ByteArray.size, HL.out]; omega)).mono ?_
        rintro e w5 ⟨rfl, b5⟩
        rw [show (⟨L.toArray⟩ : ByteArray).data.toList = L from rfl, HRE.out]
        generalize (v != 0) = y
        go_wp2_with fail
        refine (lives_any _).mono ?_
        rintro e w6 ⟨rfl, b6⟩
        go_wp2
        go_ret
        have s1 := b1.size
        have s2 := hb.size
        have s5 := b5.size
        exact ⟨rfl, ((b1.trans (hb.mono (by omega))).trans (b5.mono (by omega))).trans (b6.mono (by omega))⟩
      · have hd1 : decide ((k : Int) < 15) = false := by simp; omega
        clear hgo
        go_wp2_with fail
        refine (told_ok _ _ hL (by simp [ByteArray.size, HL.out]; omega) (by simp [ByteArray.size, HL.out]; omega)).mono ?_
        rintro e w5 ⟨rfl, b5⟩
        rw [show (⟨L.toArray⟩ : ByteArray).data.toList = L from rfl, HRE.out]
        generalize (v != 0) = y
        go_wp2_with fail
        refine (lives_any _).mono ?_
        rintro e w6 ⟨rfl, b6⟩
        go_wp2
        go_ret
        have s1 := b1.size
        have s2 := hb.size
        have s5 := b5.size
        exact ⟨rfl, ((b1.trans (hb.mono (by omega))).trans (b5.mono (by omega))).trans (b6.mono (by omega))⟩

theorem bursts_walk (s : ByteArray) (a c : Int) (w : World) (ha : (Lit.int .u8 a).wf = true) (hc : (Lit.int .u16 c).wf = true) (hbig : s.size ≤ 140737488351232) :
    Calls Try.prog 7 #[.string s, .int .u8 a, .int .u16 c] w fun e w' => e = .returned (.bool true) ∧ Below w.heap.size w w' := by
  have hx : 0 ≤ a ∧ a ≤ 255 := by simpa [Lit.wf, IntKind.min, IntKind.max, IntKind.signed, IntKind.bits] using ha
  have hy : 0 ≤ c ∧ c ≤ 65535 := by simpa [Lit.wf, IntKind.min, IntKind.max, IntKind.signed, IntKind.bits] using hc
  obtain ⟨a, rfl⟩ := Int.eq_ofNat_of_zero_le hx.1
  obtain ⟨c, rfl⟩ := Int.eq_ofNat_of_zero_le hy.1
  by_cases h0 : err s.data.toList = 0
  · by_cases hs : s.size + 15 ≤ 127
    · exact bursts_ok s a c w (by omega) (by omega) h0 hs
    · exact bursts_bad s a c w hbig (.inr (by omega))
  · exact bursts_bad s a c w hbig (.inl h0)
end Go.Proofs.Ytcpgpnilglbmoaa
