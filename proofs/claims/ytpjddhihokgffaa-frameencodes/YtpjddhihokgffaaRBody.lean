/- Contracts of the document's own Body, Encode and Field. -/
import Derived.Test.YtpjddhihokgffaaEnc
import Derived.Test.YtpjddhihokgffaaRStuff
namespace Go.Proofs.Ytpjddhihokgffaa
open Go.RowKit Go.Proofs.Bits
set_option linter.unusedVariables false
set_option maxRecDepth 1000000

set_option maxHeartbeats 4000000 in
theorem r2Field_any (f : Fr) (w : World) :
    Calls Try.prog 12 #[f.val] w fun e w' => e = .returned (.tuple #[.string ⟨(fldV f).toArray⟩, .int .i64 f.chk]) ∧ Below w.heap.size w w' := by
  have HV : Hid (fldV f = if f.chk = 0 then f.field else []) := rfl
  have HC := r2Check_any f
  have fn := Fa.new w f
  have bn : Below w.heap.size w (w.alloc (.cells f.arr 25)) := (Below.refl _ _).alloc (Nat.le_refl _) _
  have sn := size_alloc w (.cells f.arr 25)
  rcases chk_cases f with h0 | h0
  · rw [h0] at HC
    have HV : Hid (fldV f = f.field) := by show fldV f = _; rw [HV.out, if_pos h0]
    have HF := fun W => r2field_any f W h0
    rw [h0]
    generalize fldV f = V at *
    unfold Fr.val at *
    go_enter Try.func12, Try.ntmps12
    go_wp2_with (refine fn.ld rfl _ rfl rfl ?_)
    refine (HC _).mono ?_
    rintro e w1 ⟨rfl, b1⟩
    have f1 : Fa w.heap.size f w1 := (b1.block _ (by omega)).trans fn
    have B1 := bn.trans (b1.mono (by omega))
    have s1 := B1.size
    clear fn bn b1 sn HC
    go_wp2_with (refine f1.ld rfl _ rfl rfl ?_)
    refine (HF _).mono ?_
    rintro e w2 ⟨rfl, b2⟩
    have B2 := B1.trans (b2.mono s1)
    go_wp2
    go_ret2
    exact ⟨ret_str (by rw [HV.out]) rfl, B2⟩
  · rw [h0] at HC
    have HV : Hid (fldV f = []) := by show fldV f = _; rw [HV.out, if_neg (by rw [h0]; decide)]
    rw [h0]
    generalize fldV f = V at *
    unfold Fr.val at *
    go_enter Try.func12, Try.ntmps12
    go_wp2_with (refine fn.ld rfl _ rfl rfl ?_)
    refine (HC _).mono ?_
    rintro e w1 ⟨rfl, b1⟩
    clear fn HC
    go_wp2
    go_ret2
    exact ⟨ret_str (by rw [HV.out]) rfl, bn.trans (b1.mono (by omega))⟩

theorem sz48 : (⟨#[48]⟩ : ByteArray).size = 1 := rfl
theorem front0 (F N : List UInt8) : (⟨#[48]⟩ ++ ⟨F.toArray⟩ ++ ⟨#[48]⟩ : ByteArray) ++ ⟨N.toArray⟩ = ⟨([48] ++ F ++ [48] ++ N).toArray⟩ := by
  apply ByteArray.ext; simp
theorem front1 (F N : List UInt8) : (⟨#[48]⟩ ++ ⟨F.toArray⟩ ++ ⟨#[48]⟩ ++ ⟨#[48]⟩ : ByteArray) ++ ⟨N.toArray⟩ = ⟨([48] ++ F ++ [48] ++ [48] ++ N).toArray⟩ := by
  apply ByteArray.ext; simp

set_option maxHeartbeats 4000000 in
theorem r2Body_any (f : Fr) (h0 : f.chk = 0) (w : World) :
    Calls Try.prog 36 #[f.val] w fun e w' => e = .returned (.string ⟨f.body.toArray⟩) ∧ Below w.heap.size w w' := by
  have fn := Fa.new w f
  have bn : Below w.heap.size w (w.alloc (.cells f.arr 25)) := (Below.refl _ _).alloc (Nat.le_refl _) _
  have sn := size_alloc w (.cells f.arr 25)
  obtain ⟨p1, p2, p3, p4⟩ := chk_parts h0
  have HF := fun W => r2field_any f W h0
  have hfl := field_length f
  unfold Fr.val at *
  go_enter Try.func36, Try.ntmps36
  go_wp2_with (refine fn.ld rfl _ rfl rfl ?_)
  refine (HF _).mono ?_
  rintro e w1 ⟨rfl, b1⟩
  have f1 : Fa w.heap.size f w1 := (b1.block _ (by omega)).trans fn
  have B1 := bn.trans (b1.mono (by omega))
  have s1 := B1.size
  have c1 := f1.c1
  have c3 := f1.c3
  have hsz : (⟨f.field.toArray⟩ : ByteArray).size ≤ 32 := by
    simp only [ByteArray.size, List.size_toArray]
    rw [hfl]; split <;> omega
  clear fn bn b1 sn HF
  have HFr : Hid (f.front = [48] ++ f.field ++ [48] ++ (if f.ext then [48] else []) ++ numL f.len.toNat 4) := rfl
  have hfr := front_length f
  have hbl := f.bytes_le
  cases hx : f.ext
  case' false =>
    rw [hx] at c1
    go_wp2_with fail
    have HX : Hid ((⟨#[48]⟩ ++ ⟨f.field.toArray⟩ ++ ⟨#[48]⟩ : ByteArray) ++ ⟨(numL f.len.toNat 4).toArray⟩ = ⟨f.front.toArray⟩) := by
      show _ = _
      rw [front0, HFr.out, hx]; simp
    have hXs : (⟨#[48]⟩ ++ ⟨f.field.toArray⟩ ++ ⟨#[48]⟩ : ByteArray).size ≤ 40 := by simp only [ByteArray.size_append, sz48]; omega
    generalize (⟨#[48]⟩ ++ ⟨f.field.toArray⟩ ++ ⟨#[48]⟩ : ByteArray) = X at *
  case' true =>
    rw [hx] at c1
    go_wp2_with fail
    have HX : Hid ((⟨#[48]⟩ ++ ⟨f.field.toArray⟩ ++ ⟨#[48]⟩ ++ ⟨#[48]⟩ : ByteArray) ++ ⟨(numL f.len.toNat 4).toArray⟩ = ⟨f.front.toArray⟩) := by
      show _ = _
      rw [front1, HFr.out, hx]; simp
    have hXs : (⟨#[48]⟩ ++ ⟨f.field.toArray⟩ ++ ⟨#[48]⟩ ++ ⟨#[48]⟩ : ByteArray).size ≤ 40 := by simp only [ByteArray.size_append, sz48]; omega
    generalize (⟨#[48]⟩ ++ ⟨f.field.toArray⟩ ++ ⟨#[48]⟩ ++ ⟨#[48]⟩ : ByteArray) = X at *
  all_goals
    have hl64 : f.len = ((f.len.toNat : Nat) : Int) := by omega
    generalize f.len.toNat = ln at *
    rw [hl64]
    refine (r2num_any ln 4 _ (by omega) (by omega) (by omega)).mono ?_
    rintro e w2 ⟨rfl, b2⟩
    have f2 : Fa w.heap.size f w2 := (b2.block _ f1.lt).trans f1
    have B2 := B1.trans (b2.mono s1)
    have s2 := B2.size
    have hn4 : (⟨(numL ln 4).toArray⟩ : ByteArray).size = 4 := by simp [ByteArray.size, numL_length]
    clear f1 B1 b2 c1 c3
    generalize (⟨(numL ln 4).toArray⟩ : ByteArray) = N4 at *
    go_wp2_with fail
    have HH : Hid (f.head = f.front ++ bytesL (f.data.take f.bytes)) := rfl
    have HBd : Hid (f.body = f.head ++ numL (crc f.head) 15) := rfl
    have hhl := head_length f
    have hha := head_all f
    generalize hq : w.heap.size = q at *
    go_loopw [3, 4] (fun s i wr => ∃ k : Nat, k ≤ f.bytes ∧ i = .int .i64 k ∧ s = .string ⟨(f.front ++ bytesL (f.data.take k)).toArray⟩ ∧ Fa q f wr ∧ Below q w wr) (fun _ i _ => f.bytes - (intOf i).toNat)
    case atStart => exact ⟨0, Nat.zero_le _, rfl, by rw [HX.out]; simp [bytesL], f2, B2⟩
    case round =>
      obtain ⟨k, hk, rfl, rfl, f3, B3⟩ := hrel
      have L3 := f3.lt
      clear f2 B2 HX
      go_wp2_with (refine f3.ld rfl _ rfl rfl ?_)
      refine (r2Bytes_any f _).mono ?_
      rintro e w4 ⟨rfl, b4⟩
      have f4 : Fa q f w4 := (b4.block _ L3).trans f3
      have B4 := B3.trans (b4.mono (by omega))
      have L4 := f4.lt
      clear f3 B3 b4
      by_cases hkN : k < f.bytes
      · have hkd : k < f.data.length := by rw [f.hdata]; omega
        have hcD : w4.cell? ⟨q, 4 + k, none⟩ = some (.int .u8 (f.data[k]).toNat) := (Lib.cell_of_heap f4 (4 + k)).trans (f.arrD k (by omega))
        have HT : Hid ((⟨(f.front ++ bytesL (f.data.take k)).toArray⟩ : ByteArray) ++ ⟨(numL (f.data[k]).toNat 8).toArray⟩ = ⟨(f.front ++ bytesL (f.data.take (k + 1))).toArray⟩) := by
          show _ = _
          rw [txt_add, ltake_snoc _ _ hkd, bytesL_snoc, List.append_assoc]
        have hbl8 : (⟨(f.front ++ bytesL (f.data.take k)).toArray⟩ : ByteArray).size ≤ 200 := by
          simp only [ByteArray.size, List.size_toArray]
          rw [List.length_append, bytesL_length, hfr, List.length_take]
          split <;> omega
        have hd8 := (f.data[k]).toNat_lt
        generalize hdk : f.data[k] = dk at *
        have hn8 : (⟨(numL dk.toNat 8).toArray⟩ : ByteArray).size = 8 := by simp [ByteArray.size, numL_length]
        have hNum := fun W => r2num_any dk.toNat 8 W (by omega) (by omega) (by omega)
        generalize (⟨(f.front ++ bytesL (f.data.take k)).toArray⟩ : ByteArray) = acc at *
        generalize (⟨(numL dk.toNat 8).toArray⟩ : ByteArray) = N8 at *
        go_wp2_with fail
        refine (hNum _).mono ?_
        rintro e w5 ⟨rfl, b5⟩
        have f5 : Fa q f w5 := (b5.block _ L4).trans f4
        have B5 := B4.trans (b5.mono (by omega))
        clear f4 B4 b5 hNum
        go_wp2
        go_roundw
        case rel => exact ⟨k + 1, by omega, by go_num, by rw [HT.out], f5, B5⟩
        case measure => simp [intOf]; omega
      · obtain rfl : k = f.bytes := by omega
        rw [← HH.out]
        have hcr : crcV f.head = crc f.head := by rw [crcV, if_pos (err_of hha (by rw [hhl]; split <;> omega))]
        have hhs : (⟨f.head.toArray⟩ : ByteArray).size ≤ 200 := by
          simp only [ByteArray.size, List.size_toArray]
          rw [hhl]; split <;> omega
        have hCR := rCRC_any ⟨f.head.toArray⟩
        rw [show (⟨f.head.toArray⟩ : ByteArray).data.toList = f.head from rfl, hcr] at hCR
        have hlt := crc_lt f.head
        have HE : Hid ((⟨f.head.toArray⟩ : ByteArray) ++ ⟨(numL (crc f.head) 15).toArray⟩ = ⟨f.body.toArray⟩) := by
          show _ = _
          rw [txt_add, HBd.out]
        have hn15 : (⟨(numL (crc f.head) 15).toArray⟩ : ByteArray).size = 15 := by simp [ByteArray.size, numL_length]
        generalize crc f.head = cr at *
        have hNum := fun W => r2num_any cr 15 W (by omega) (by omega) (by omega)
        generalize (⟨f.head.toArray⟩ : ByteArray) = HDt at *
        generalize (⟨(numL cr 15).toArray⟩ : ByteArray) = N15 at *
        go_wp2_with fail
        refine (hCR _).mono ?_
        rintro e w5 ⟨rfl, rfl⟩
        go_wp2_with fail
        refine (hNum _).mono ?_
        rintro e w6 ⟨rfl, b6⟩
        have B6 := B4.trans (b6.mono (by omega))
        go_wp2
        go_ret
        exact ⟨ret_txt HE.out, by rw [hq]; exact B6⟩

theorem body_err (f : Fr) : err f.body = 0 := err_of (body_all f) (by have := body_short f; omega)
theorem encs (S : List UInt8) (b : Bool) : (⟨S.toArray⟩ ++ ⟨#[49]⟩ ++ ⟨(flagV (!b)).toArray⟩ ++ ⟨#[49, 49, 49, 49, 49, 49, 49, 49]⟩ : ByteArray) = ⟨(S ++ flagV true ++ flagV (!b) ++ [49, 49, 49, 49, 49, 49, 49, 49]).toArray⟩ := by
  apply ByteArray.ext; simp [flagV]

set_option maxHeartbeats 4000000 in
theorem r2Encode_any (f : Fr) (ack : Bool) (w : World) :
    Calls Try.prog 10 #[f.val, .bool ack] w fun e w' => e = .returned (.tuple #[.string ⟨(encV f ack).toArray⟩, .int .i64 f.chk]) ∧ Below w.heap.size w w' := by
  have HV : Hid (encV f ack = if f.chk = 0 then f.bits ack else []) := rfl
  have HC := r2Check_any f
  have fn := Fa.new w f
  have bn : Below w.heap.size w (w.alloc (.cells f.arr 25)) := (Below.refl _ _).alloc (Nat.le_refl _) _
  have sn := size_alloc w (.cells f.arr 25)
  rcases chk_cases f with h0 | h0
  · rw [h0] at HC
    have HV : Hid (encV f ack = f.bits ack) := by show encV f ack = _; rw [HV.out, if_pos h0]
    have HB := r2Body_any f h0
    have hst := rStuff_any ⟨f.body.toArray⟩
    rw [show (⟨f.body.toArray⟩ : ByteArray).data.toList = f.body from rfl, body_err f, stuffV, if_pos (body_err f)] at hst
    have hsl := stuff_body_length f
    have HE : Hid ((⟨(stuff f.body).toArray⟩ ++ ⟨#[49]⟩ ++ ⟨(flagV (!ack)).toArray⟩ ++ ⟨#[49, 49, 49, 49, 49, 49, 49, 49]⟩ : ByteArray) = ⟨(encV f ack).toArray⟩) := by
      show _ = _
      rw [encs, HV.out]; rfl
    have hss : (⟨(stuff f.body).toArray⟩ : ByteArray).size ≤ 236 := by simpa [ByteArray.size] using hsl
    have hff : (⟨(flagV (!ack)).toArray⟩ : ByteArray).size = 1 := by simp [ByteArray.size, flagV_length]
    have hFl := fun W => r2flag_any (!ack) W
    rw [h0]
    generalize (⟨(encV f ack).toArray⟩ : ByteArray) = V at *
    generalize (⟨(stuff f.body).toArray⟩ : ByteArray) = ST at *
    generalize (⟨f.body.toArray⟩ : ByteArray) = BD at *
    generalize (⟨(flagV (!ack)).toArray⟩ : ByteArray) = FL at *
    unfold Fr.val at *
    go_enter Try.func10, Try.ntmps10
    go_wp2_with (refine fn.ld rfl _ rfl rfl ?_)
    refine (HC _).mono ?_
    rintro e w1 ⟨rfl, b1⟩
    have f1 : Fa w.heap.size f w1 := (b1.block _ (by omega)).trans fn
    have B1 := bn.trans (b1.mono (by omega))
    have s1 := B1.size
    clear fn bn b1 sn HC
    go_wp2_with (refine f1.ld rfl _ rfl rfl ?_)
    refine (HB _).mono ?_
    rintro e w2 ⟨rfl, b2⟩
    have B2 := B1.trans (b2.mono s1)
    have s2 := B2.size
    go_wp2_with fail
    refine (hst _).mono ?_
    rintro e w3 ⟨rfl, b3⟩
    have B3 := B2.trans (b3.mono s2)
    have s3 := B3.size
    clear f1 B1 b2 B2 b3 hst HB
    go_wp2_with fail
    refine (hFl _).mono ?_
    rintro e w4 ⟨rfl, b4⟩
    have B4 := B3.trans (b4.mono s3)
    go_wp2
    go_ret2
    exact ⟨ret_str HE.out rfl, B4⟩
  · rw [h0] at HC
    have HV : Hid (encV f ack = []) := by show encV f ack = _; rw [HV.out, if_neg (by rw [h0]; decide)]
    rw [h0]
    generalize encV f ack = V at *
    unfold Fr.val at *
    go_enter Try.func10, Try.ntmps10
    go_wp2_with (refine fn.ld rfl _ rfl rfl ?_)
    refine (HC _).mono ?_
    rintro e w1 ⟨rfl, b1⟩
    clear fn HC
    go_wp2
    go_ret2
    exact ⟨ret_str (by rw [HV.out]) rfl, bn.trans (b1.mono (by omega))⟩
end Go.Proofs.Ytpjddhihokgffaa
