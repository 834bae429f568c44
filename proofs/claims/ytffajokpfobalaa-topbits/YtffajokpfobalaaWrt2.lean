/- Contract of a writer's body. -/
import Derived.Test.YtffajokpfobalaaWrt
namespace Go.Proofs.Ytffajokpfobalaa
open Go.RowKit Go.Proofs.Bits
set_option linter.unusedVariables false
set_option maxRecDepth 1000000

def bytesL (ds : List UInt8) : List UInt8 := ds.flatMap fun c => numL c.toNat 8
theorem bytesL_length (ds : List UInt8) : (bytesL ds).length = 8 * ds.length := by
  induction ds with
  | nil => rfl
  | cons d ds ih => simp only [bytesL, List.flatMap_cons, List.length_append, numL_length, List.length_cons] at ih ⊢; omega
theorem bytesL_snoc (ds : List UInt8) (c : UInt8) : bytesL (ds ++ [c]) = bytesL ds ++ numL c.toNat 8 := by simp [bytesL]
theorem bytesL_all (ds : List UInt8) : (bytesL ds).all isBit = true := by
  induction ds using snoc_ind with
  | h0 => rfl
  | h1 l c ih => rw [bytesL_snoc, List.all_append, ih, numL_all]; rfl
/-- What is ahead of the bytes. -/
def Fr.front (f : Fr) : List UInt8 := [48] ++ f.field ++ [48] ++ (if f.ext then [48] else []) ++ numL f.len.toNat 4
def Fr.head (f : Fr) : List UInt8 := f.front ++ bytesL (f.data.take f.bytes)
/-- The body. -/
def Fr.body (f : Fr) : List UInt8 := f.head ++ numL (crc f.head) 15
theorem field_length (f : Fr) : f.field.length = if f.ext then 32 else 13 := by
  unfold Fr.field
  cases f.ext
  · simp [numL_length, flagV_length]
  · simp [numL_length, flagV_length]
theorem flagV_all (b : Bool) : (flagV b).all isBit = true := by cases b <;> rfl
theorem field_all (f : Fr) : f.field.all isBit = true := by
  unfold Fr.field
  split
  · simp only [List.all_append, numL_all, flagV_all]; rfl
  · simp only [List.all_append, numL_all, flagV_all]; rfl
theorem front_length (f : Fr) : f.front.length = if f.ext then 39 else 19 := by
  unfold Fr.front
  simp only [List.length_append, field_length, numL_length]
  cases f.ext <;> simp
theorem front_all (f : Fr) : f.front.all isBit = true := by
  unfold Fr.front
  simp only [List.all_append, field_all, numL_all]
  cases f.ext <;> rfl
theorem head_length (f : Fr) : f.head.length = (if f.ext then 39 else 19) + 8 * f.bytes := by
  have := f.bytes_le
  unfold Fr.head
  rw [List.length_append, front_length, bytesL_length, List.length_take, f.hdata, Nat.min_eq_left this]
theorem head_all (f : Fr) : f.head.all isBit = true := by
  unfold Fr.head
  rw [List.all_append, front_all, bytesL_all]; rfl
theorem body_length (f : Fr) : f.body.length = (if f.ext then 54 else 34) + 8 * f.bytes := by
  unfold Fr.body
  rw [List.length_append, head_length, numL_length]
  cases f.ext <;> simp <;> omega
theorem body_all (f : Fr) : f.body.all isBit = true := by
  unfold Fr.body
  rw [List.all_append, head_all, numL_all]; rfl
theorem err_of {l : List UInt8} (h : l.all isBit = true) (hl : l.length ≤ 65536) : err l = 0 := by
  unfold err
  rw [if_neg (by omega), if_pos h]

section
variable {g : Nat} {l : List UInt8} {w w' : World}
theorem chk_parts {f : Fr} (h0 : f.chk = 0) : 0 ≤ f.len ∧ f.len ≤ 15 ∧ f.id < 536870912 ∧ (f.ext = false → f.id < 2048) := by
  have HB : f.bad = false := by
    unfold Fr.chk at h0
    cases hb : f.bad
    · rfl
    · rw [hb] at h0; simp at h0
  unfold Fr.bad at HB
  simp only [Bool.or_eq_false_iff, decide_eq_false_iff_not, Bool.and_eq_false_iff, Bool.not_eq_false'] at HB
  obtain ⟨⟨⟨b1, b2⟩, b3⟩, b4⟩ := HB
  refine ⟨by omega, by omega, by omega, fun hx => ?_⟩
  rcases b4 with b4 | b4
  · rw [hx] at b4; cases b4
  · omega

theorem slice_data (q n : Nat) (hn : n ≤ 8) (W : World) : (Instr.sliceAt 31 (.pointer (some ⟨q, 4, none⟩)) none (some (.int .i64 n)) none).run Try.prog W = .ok (.slice (some ⟨q, 4, none⟩) n 8) W := by
  obtain ⟨i0, hi, hz0, hz1, hz2⟩ := info_parts binfo5
  have h0 : (0 : Int) ≤ (n : Int) := by omega
  simp [Instr.sliceAt, run_underlying Try.underlying31, go_sem, h0, sizeOf, typeInfo, hi, Addr.add]
  intro h
  omega

set_option maxHeartbeats 4000000 in
theorem wbody_any (f : Fr) (h0 : f.chk = 0) (h : Wr g [] w) :
    Calls Try.prog 14 #[.pointer (some ⟨g, 0, none⟩), f.val] w fun e w' => e = .returned (.tuple #[]) ∧ Wr g f.body w' ∧ Kp g w w' := by
  have hS := Ws.new h f
  obtain ⟨p1, p2, p3, p4⟩ := chk_parts h0
  have hfl := field_length f
  have hbl := f.bytes_le
  have HF : Hid (f.front = [48] ++ f.field ++ [48] ++ (if f.ext then [48] else []) ++ numL f.len.toNat 4) := rfl
  have HH : Hid (f.head = f.front ++ bytesL (f.data.take f.bytes)) := rfl
  have HB : Hid (f.body = f.head ++ numL (crc f.head) 15) := rfl
  have hhl := head_length f
  have hha := head_all f
  unfold Fr.val
  generalize f.body = BB at *
  go_enter Try.func14, Try.ntmps14
  go_wp2_with fail
  refine (hS.mark false (by simp)).mono ?_
  rintro e w1 ⟨rfl, S1⟩
  have f1 := S1.2.1
  generalize w.heap.size = q at *
  clear hS
  go_wp2_with (refine f1.ld rfl _ rfl rfl ?_)
  refine (wfield_any f h0 S1.1 (by simp [flagV])).mono ?_
  rintro e w2 ⟨rfl, r2, k2⟩
  have S2 := S1.keep r2 k2
  clear f1 S1 r2 k2
  go_wp2_with fail
  refine (S2.mark false (by simp [flagV, hfl]; split <;> omega)).mono ?_
  rintro e w3 ⟨rfl, S3⟩
  have c1 := S3.c1
  have c3 := S3.c3
  clear S2
  cases hx : f.ext
  case' false =>
    rw [hx] at c1
    have HP : Hid (f.front = ([] ++ flagV false ++ f.field ++ flagV false) ++ numL f.len.toNat 4) := by show f.front = _; rw [HF.out, hx]; simp [flagV]
    have hpl : ([] ++ flagV false ++ f.field ++ flagV false).length ≤ 40 := by simp [flagV, hfl, hx]
    go_wp2_with fail
    generalize ([] ++ flagV false ++ f.field ++ flagV false) = pre at *
    generalize w3 = wn at *
    have S5 := S3
    clear S3
  case' true =>
    rw [hx] at c1
    have HP : Hid (f.front = ([] ++ flagV false ++ f.field ++ flagV false ++ flagV false) ++ numL f.len.toNat 4) := by show f.front = _; rw [HF.out, hx]; simp [flagV]
    have hpl : ([] ++ flagV false ++ f.field ++ flagV false ++ flagV false).length ≤ 40 := by simp [flagV, hfl, hx]
    go_wp2_with fail
    refine (S3.mark false (by simp [flagV, hfl, hx])).mono ?_
    rintro e wn ⟨rfl, S5⟩
    have c3 := S5.c3
    go_wp2_with fail
    generalize ([] ++ flagV false ++ f.field ++ flagV false ++ flagV false) = pre at *
    clear S3
  all_goals
    have hl64 : f.len = ((f.len.toNat : Nat) : Int) := by omega
    generalize f.len.toNat = ln at *
    rw [hl64]
    refine (S5.number ln 4 (by omega) (by omega) (by omega) (by omega)).mono ?_
    rintro e w6 ⟨rfl, S6⟩
    have hfl2 := front_length f
    rw [← HP.out] at S6
    have f6 := S6.2.1
    clear S5 c3 c1
    go_wp2_with (refine f6.ld rfl _ rfl rfl ?_)
    refine (fbytesOf_any f _).mono ?_
    rintro e w7 ⟨rfl, b7⟩
    have S7 : Ws g w q f f.front w7 := S6.keep (S6.1.below b7) (Kp.of_below b7 (Nat.le_of_lt S6.1.lt))
    clear f6 S6 b7
    have hsl := slice_data q f.bytes hbl
    go_wp2_with fail
    go_loopw [29] (fun i wr => ∃ k : Nat, k ≤ f.bytes ∧ i = .int .i64 k ∧ Ws g w q f (f.front ++ bytesL (f.data.take k)) wr) (fun i _ => f.bytes - (intOf i).toNat)
    case atStart => exact ⟨0, Nat.zero_le _, rfl, by simpa [bytesL] using S7⟩
    case round =>
      obtain ⟨k, hk, rfl, S8⟩ := hrel
      clear S7
      by_cases hkN : k < f.bytes
      · have hkd : k < f.data.length := by rw [f.hdata]; omega
        have hcD : wr.cell? ⟨q, 4 + k, none⟩ = some (.int .u8 (f.data[k]).toNat) := (Lib.cell_of_heap S8.2.1 (4 + k)).trans (f.arrD k (by omega))
        have HT : Hid (f.front ++ bytesL (f.data.take (k + 1)) = (f.front ++ bytesL (f.data.take k)) ++ numL (f.data[k]).toNat 8) := by
          show _ = _
          rw [ltake_snoc _ _ hkd, bytesL_snoc, List.append_assoc]
        have hbl8 : (f.front ++ bytesL (f.data.take k)).length ≤ 200 := by
          rw [List.length_append, bytesL_length, hfl2, List.length_take]
          split <;> omega
        have hd8 := (f.data[k]).toNat_lt
        generalize hdk : f.data[k] = dk at *
        generalize f.front ++ bytesL (f.data.take k) = acc at *
        go_wp2_with fail
        refine (S8.number dk.toNat 8 (by omega) (by omega) (by omega) (by omega)).mono ?_
        rintro e w9 ⟨rfl, S9⟩
        rw [← HT.out] at S9
        clear S8
        go_wp2
        go_roundw
        case rel => exact ⟨k + 1, by omega, by go_num, S9⟩
        case measure => simp [intOf]; omega
      · obtain rfl : k = f.bytes := by omega
        rw [← HH.out] at S8
        have hne : f.head ≠ [] := by
          intro e
          rw [e] at hhl
          simp at hhl
          split at hhl <;> omega
        have hcr : crcV f.head = crc f.head := by rw [crcV, if_pos (err_of hha (by rw [hhl]; split <;> omega))]
        have hhl2 : f.head.length ≤ 200 := by rw [hhl]; split <;> omega
        go_wp2_with fail
        refine (S8.1.string hne).mono ?_
        rintro e w9 ⟨rfl, r9, k9⟩
        have S9 := S8.keep r9 k9
        go_wp2_with fail
        refine (CRC_any _ _).mono ?_
        rintro e w10 ⟨rfl, b10⟩
        have S10 : Ws g w q f f.head w10 := S9.keep (S9.1.below b10) (Kp.of_below b10 (Nat.le_of_lt S9.1.lt))
        simp only [hcr]
        have hlt := crc_lt f.head
        clear S8 S9 r9 k9 b10
        generalize crc f.head = cr at *
        go_wp2_with fail
        refine (S10.number cr 15 (by omega) (by omega) (by omega) (by omega)).mono ?_
        rintro e w11 ⟨rfl, S11⟩
        rw [← HB.out] at S11
        go_wp2
        go_end0
        exact ⟨rfl, S11.1, S11.2.2.1⟩
end
end Go.Proofs.Ytffajokpfobalaa
