/- Contract of a writer's body. -/
import Derived.Test.YtfddoindcmdooaaWrt
namespace Go.Proofs.Ytfddoindcmdooaa
open Go.RowKit Go.Proofs.Bits
set_option linter.unusedVariables false
set_option maxRecDepth 1000000

def bytesL (ds : List UInt8) : List UInt8 := ds.flatMap fun c => numL c.toNat 8
theorem bytesL_length (ds : List UInt8) : (bytesL ds).length = 8 * ds.length := by
  induction ds with
  | nil => rfl
  | cons d ds ih => simp only [bytesL, List.flatMap_cons, List.length_append, numL_length, List.length_cons] at ih ⊢; omega
theorem bytesL_snoc (ds : List UInt8) (c : UInt8) : bytesL (ds ++ [c]) = bytesL ds ++ numL c.toNat 8 := by simp [bytesL]
theorem bytesL_all (ds : List UInt8) : (bytesL ds).all isBit = true := by
  induction ds using snoc_ind with
  | h0 => rfl
  | h1 l c ih => rw [bytesL_snoc, List.all_append, ih, numL_all]; rfl
/-- What is ahead of the bytes. -/
def Fr.front (f : Fr) : List UInt8 := [48] ++ f.field ++ [48] ++ (if f.ext then [48] else []) ++ numL f.len.toNat 4
def Fr.head (f : Fr) : List UInt8 := f.front ++ bytesL (f.data.take f.bytes)
/-- The body. -/
def Fr.body (f : Fr) : List UInt8 := f.head ++ numL (crc f.head) 15
theorem field_length (f : Fr) : f.field.length = if f.ext then 32 else 13 := by
  unfold Fr.field
  cases f.ext
  · simp [numL_length, flagV_length]
  · simp [numL_length, flagV_length]
theorem flagV_all (b : Bool) : (flagV b).all isBit = true := by cases b <;> rfl
theorem field_all (f : Fr) : f.field.all isBit = true := by
  unfold Fr.field
  split
  · simp only [List.all_append, numL_all, flagV_all]; rfl
  · simp only [List.all_append, numL_all, flagV_all]; rfl
theorem front_length (f : Fr) : f.front.length = if f.ext then 39 else 19 := by
  unfold Fr.front
  simp only [List.length_append, field_length, numL_length]
  cases f.ext <;> simp
theorem front_all (f : Fr) : f.front.all isBit = true := by
  unfold Fr.front
  simp only [List.all_append, field_all, numL_all]
  cases f.ext <;> rfl
theorem head_length (f : Fr) : f.head.length = (if f.ext then 39 else 19) + 8 * f.bytes := by
  have := f.bytes_le
  unfold Fr.head
  rw [List.length_append, front_length, bytesL_length, List.length_take, f.hdata, Nat.min_eq_left this]
theorem head_all (f : Fr) : f.head.all isBit = true := by
  unfold Fr.head
  rw [List.all_append, front_all, bytesL_all]; rfl
theorem body_length (f : Fr) : f.body.length = (if f.ext then 54 else 34) + 8 * f.bytes := by
  unfold Fr.body
  rw [List.length_append, head_length, numL_length]
  cases f.ext <;> simp <;> omega
theorem body_all (f : Fr) : f.body.all isBit = true := by
  unfold Fr.body
  rw [List.all_append, head_all, numL_all]; rfl
theorem err_of {l : List UInt8} (h : l.all isBit = true) (hl : l.length ≤ 65536) : err l = 0 := by
  unfold err
  rw [if_neg (by omega), if_pos h]

section
variable {g : Nat} {l : List UInt8} {w w' : World}
theorem chk_parts {f : Fr} (h0 : f.chk = 0) : 0 ≤ f.len ∧ f.len ≤ 15 ∧ f.id < 536870912 ∧ (f.ext = false → f.id < 2048) := by
  have HB : f.bad = false := by
    unfold Fr.chk at h0
    cases hb : f.bad
    · rfl
    · rw [hb] at h0; simp at h0
  unfold Fr.bad at HB
  simp only [Bool.or_eq_false_iff, decide_eq_false_iff_not, Bool.and_eq_false_iff, Bool.not_eq_false'] at HB
  obtain ⟨⟨⟨b1, b2⟩, b3⟩, b4⟩ := HB
  refine ⟨by omega, by omega, by omega, fun hx => ?_⟩
  rcases b4 with b4 | b4
  · rw [hx] at b4; cases b4
  · omega

theorem slice_data (q n : Nat) (hn : n ≤ 8) (W : World) : (Instr.sliceAt 43 (.pointer (some ⟨q, 4, none⟩)) none (some (.int .i64 n)) none).run Try.prog W = .ok (.slice (some ⟨q, 4, none⟩) n 8) W := by
  obtain ⟨i0, hi, hz0, hz1, hz2⟩ := info_parts binfo5
  have h0 : (0 : Int) ≤ (n : Int) := by omega
  simp [Instr.sliceAt, run_underlying Try.underlying43, go_sem, h0, sizeOf, typeInfo, hi, Addr.add]
  intro h
  omega

end
end Go.Proofs.Ytfddoindcmdooaa
