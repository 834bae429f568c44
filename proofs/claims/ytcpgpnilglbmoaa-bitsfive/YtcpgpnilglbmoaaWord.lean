/- Contracts of word and told. -/
import Derived.Test.YtcpgpnilglbmoaaNum
import Derived.Test.YtcpgpnilglbmoaaCells
import Derived.Test.YtcpgpnilglbmoaaMathF
import Derived.Test.YtcpgpnilglbmoaaLives
namespace Go.Proofs.Ytcpgpnilglbmoaa
open Go.RowKit Go.Proofs.Bits
set_option linter.unusedVariables false

theorem word_num (l : List UInt8) : numE (crcV l) 15 = 0 ∧ numV (crcV l) 15 = numL (crcV l) 15 := by
  have h := crcV_lt l
  have hz : crcV l / 2 ^ (15 : Int).toNat = 0 := Nat.div_eq_of_lt (by simpa using h)
  constructor
  · unfold numE; rw [if_neg (by omega)]
  · unfold numV; rw [if_neg (by omega)]; rfl

set_option maxHeartbeats 400000 in
theorem word_ok (s : ByteArray) (w : World) (h0 : err s.data.toList = 0) (hs : s.size + 15 ≤ 127) :
    Calls Try.prog 24 #[.string s] w fun e w' => e = .returned (.tuple #[.string ⟨(s.data.toList ++ numL (crc s.data.toList) 15).toArray⟩, .bool true]) ∧ Below w.heap.size w w' := by
  have H0 : Hid (err s.data.toList = 0) := h0
  have hv : crcV s.data.toList = crc s.data.toList := by simp [crcV, h0]
  have HV : Hid (crcV s.data.toList = crc s.data.toList) := hv
  have hw := word_num s.data.toList
  rw [hv] at hw
  have HE : Hid (numE (crc s.data.toList) 15 = 0) := hw.1
  have HN : Hid (numV (crc s.data.toList) 15 = numL (crc s.data.toList) 15) := hw.2
  have hlt := crc_lt s.data.toList
  have hl := numL_length (crc s.data.toList) 15
  clear h0 hw hv
  go_enter Try.func24, Try.ntmps24
  go_wp2_with fail
  refine (CRC_any s _).mono ?_
  rintro e w1 ⟨rfl, b1⟩
  rw [H0.out, HV.out]
  go_wp2_with fail
  refine (Number_any _ 15 _ (by omega)).mono ?_
  rintro e w2 ⟨rfl, b2⟩
  rw [HE.out, HN.out]
  have hz : (⟨(numL (crc s.data.toList) 15).toArray⟩ : ByteArray).size = 15 := by simp [ByteArray.size, hl]
  clear hl
  generalize hT : (⟨(numL (crc s.data.toList) 15).toArray⟩ : ByteArray) = T at hz
  have HT : Hid ((⟨(numL (crc s.data.toList) 15).toArray⟩ : ByteArray) = T) := hT
  clear hT
  have hd : decide ((s.size : Int) + 15 ≤ 127) = true := by simp; omega
  go_wp2
  go_ret2
  refine ⟨?_, b1.trans (b2.mono b1.size)⟩
  have e : s ++ T = (⟨(s.data.toList ++ numL (crc s.data.toList) 15).toArray⟩ : ByteArray) := by
    rw [← HT.out]
    apply ByteArray.ext
    simp
  rw [← e]
  rfl

set_option maxHeartbeats 400000 in
theorem word_bad (s : ByteArray) (w : World) (hbig : s.size ≤ 140737488351232) (h : err s.data.toList ≠ 0 ∨ 127 < s.size + 15) :
    Calls Try.prog 24 #[.string s] w fun e w' => (∃ v, e = .returned (.tuple #[.string v, .bool false])) ∧ Below w.heap.size w w' := by
  have hw := word_num s.data.toList
  have HE : Hid (numE (crcV s.data.toList) 15 = 0) := hw.1
  have HN : Hid (numV (crcV s.data.toList) 15 = numL (crcV s.data.toList) 15) := hw.2
  have hlt := crcV_lt s.data.toList
  have hl := numL_length (crcV s.data.toList) 15
  clear hw
  by_cases h0 : err s.data.toList = 0
  · have H0 : Hid (err s.data.toList = 0) := h0
    obtain ⟨hz0, _⟩ := err_zero h0
    have hsz : s.size ≤ 65536 := by simpa using hz0
    have hgt : 127 < s.size + 15 := by rcases h with h | h <;> simp_all
    clear h h0 hz0
    go_enter Try.func24, Try.ntmps24
    go_wp2_with fail
    refine (CRC_any s _).mono ?_
    rintro e w1 ⟨rfl, b1⟩
    rw [H0.out]
    go_wp2_with fail
    refine (Number_any _ 15 _ (by omega)).mono ?_
    rintro e w2 ⟨rfl, b2⟩
    rw [HE.out, HN.out]
    have hz : (⟨(numL (crcV s.data.toList) 15).toArray⟩ : ByteArray).size = 15 := by simp [ByteArray.size, hl]
    clear hl
    generalize (⟨(numL (crcV s.data.toList) 15).toArray⟩ : ByteArray) = T at hz
    have hd : decide ((s.size : Int) + 15 ≤ 127) = false := by simp; omega
    go_wp2
    go_ret2
    exact ⟨⟨_, rfl⟩, b1.trans (b2.mono b1.size)⟩
  · have hn : (err s.data.toList == 0) = false := by simp [h0]
    clear h h0
    go_enter Try.func24, Try.ntmps24
    go_wp2_with fail
    refine (CRC_any s _).mono ?_
    rintro e w1 ⟨rfl, b1⟩
    go_wp2_with fail
    refine (Number_any _ 15 _ (by omega)).mono ?_
    rintro e w2 ⟨rfl, b2⟩
    rw [HE.out, HN.out]
    have hz : (⟨(numL (crcV s.data.toList) 15).toArray⟩ : ByteArray).size = 15 := by simp [ByteArray.size, hl]
    clear hl
    generalize (⟨(numL (crcV s.data.toList) 15).toArray⟩ : ByteArray) = T at hz
    go_wp2
    go_ret2
    exact ⟨⟨_, rfl⟩, b1.trans (b2.mono b1.size)⟩

set_option maxHeartbeats 400000 in
theorem told_ok (s : ByteArray) (w : World) (hall : s.data.toList.all isBit = true) (h15 : 15 ≤ s.size) (h127 : s.size ≤ 127) :
    Calls Try.prog 25 #[.string s] w fun e w' => e = .returned (.bool (rem s.data.toList != 0)) ∧ Below w.heap.size w w' := by
  have HR : Hid (s.data.toList.all isBit = true) := hall
  clear hall
  go_enter Try.func25, Try.ntmps25
  go_wp2_with fail
  refine (CRC_any _ _).mono ?_
  rintro e w1 ⟨rfl, b1⟩
  have hA : (s.extract 0 (s.size - 15)).data.toList = s.data.toList.take (s.size - 15) := by
    simp [ByteArray.data_extract, Array.toList_extract]
  have hB : (s.extract (s.size - 15) s.size).data.toList = s.data.toList.drop (s.size - 15) := by
    rw [ByteArray.data_extract, Array.toList_extract, List.extract_eq_take_drop, List.take_of_length_le]
    simp
  have allA : (s.data.toList.take (s.size - 15)).all isBit = true := by
    have := HR.out
    rw [List.all_eq_true] at this ⊢
    exact fun c hc => this c (List.mem_of_mem_take hc)
  have allB : (s.data.toList.drop (s.size - 15)).all isBit = true := by
    have := HR.out
    rw [List.all_eq_true] at this ⊢
    exact fun c hc => this c (List.mem_of_mem_drop hc)
  have lB : (s.data.toList.drop (s.size - 15)).length = 15 := by rw [List.length_drop, size_len]; omega
  have lA : (s.data.toList.take (s.size - 15)).length ≤ 65536 := by rw [List.length_take]; omega
  have eA := err_of _ lA allA
  have eB := err_of _ (by omega) allB
  have vA : crcV (s.data.toList.take (s.size - 15)) = crc (s.data.toList.take (s.size - 15)) := crcV_ok eA
  have vB : valV (s.data.toList.drop (s.size - 15)) = val (s.data.toList.drop (s.size - 15)) := by simp only [valV]; rw [if_pos eB, if_neg (by omega)]
  have xB : valE (s.data.toList.drop (s.size - 15)) = 0 := by simp only [valE]; rw [if_pos eB, if_neg (by omega)]
  have hrem : rem s.data.toList = crc (s.data.toList.take (s.size - 15)) ^^^ val (s.data.toList.drop (s.size - 15)) := by
    have h := rem_word _ _ allA allB lB
    rw [List.take_append_drop] at h
    exact h
  have hcl := crc_lt (s.data.toList.take (s.size - 15))
  have hvl := val_lt _ allB
  rw [lB] at hvl
  rw [hA, eA, vA]
  have HA : Hid ((s.extract (s.size - 15) s.size).data.toList = s.data.toList.drop (s.size - 15)) := hB
  have HVB : Hid (valV (s.data.toList.drop (s.size - 15)) = val (s.data.toList.drop (s.size - 15))) := vB
  have HXB : Hid (valE (s.data.toList.drop (s.size - 15)) = 0) := xB
  have HREM : Hid (rem s.data.toList = crc (s.data.toList.take (s.size - 15)) ^^^ val (s.data.toList.drop (s.size - 15))) := hrem
  clear hA hB allA allB lA lB eA eB vA vB xB hrem
  generalize crc (s.data.toList.take (s.size - 15)) = p at *
  go_wp2_with fail
  refine (Value_any _ _).mono ?_
  rintro e w2 ⟨rfl, b2⟩
  rw [HA.out, HVB.out, HXB.out]
  clear HVB HXB
  generalize val (s.data.toList.drop (s.size - 15)) = q at *
  go_wp2
  go_ret
  refine ⟨ret_bool ?_, b1.trans (b2.mono b1.size)⟩
  rw [HREM.out]
  by_cases e : p = q
  · subst e; simp
  · have h1 : p ^^^ q ≠ 0 := fun h => e (xor_zero h)
    have h2 : ((p : Int) != (q : Int)) = true := by rw [bne_iff_ne]; omega
    have h3 : (p ^^^ q != 0) = true := by rw [bne_iff_ne]; exact h1
    rw [h3]
    exact h2
end Go.Proofs.Ytcpgpnilglbmoaa
