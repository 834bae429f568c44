/- Contracts: bytes, Read, Save: what is laid down. -/
import Derived.Test.YtdcogpadioeclaaO12
import Derived.Test.YtdcogpadioeclaaTyE
namespace Go.Proofs.Ytdcogpadioeclaa
open Go.RowKit Go.Proofs.Ty Go.Sort Go.Lib
set_option linter.unusedVariables false
set_option maxRecDepth 1000000
set_option linter.unusedSimpArgs false
theorem bytes_shape {w : World} {v : Value} {l : List UInt8} (h : Bytes w v l) : ∃ ao cap, v = .slice ao l.length cap := by obtain ⟨ao, cap, h, _⟩ := h; exact ⟨ao, cap, h⟩
theorem ibytes_any {b : Nat} {e : En} {v : Vl} {w : World} (h : Ib b e v w) :
    Calls Try.prog 47 #[.pointer (some ⟨b, 0, none⟩)] w fun y w' => ∃ x, y = .returned x ∧ Bytes w' x v.enc ∧ Below w.heap.size w w' := by
  have hE := Encode_v v w
  have r1 := h.r14
  go_enter Try.func47, Try.ntmps47
  go_wp2_with (first | (refine ldV r1 rfl _ rfl rfl ?_))
  refine hE.mono ?_
  rintro y w1 ⟨x, rfl, hB, b1⟩
  obtain ⟨ao, cap, rfl⟩ := bytes_shape hB
  have HB := hidOf2 hB
  clear hE r1 h hB
  go_wp2
  go_ret
  exact ⟨_, rfl, HB.out, b1⟩
/-- What Read tells. -/
def rdC (its : List Im) (ix sb : Nat) : Nat := match fnd its ix sb with
  | none => noc its ix
  | some i => if i.e.ac = 1 then 100728833 else 0
def rdL (its : List Im) (ix sb : Nat) : List UInt8 := match fnd its ix sb with
  | none => []
  | some i => if i.e.ac = 1 then [] else i.v.enc
theorem bytes_nil (w : World) : Bytes w (.slice none 0 0) [] := ⟨none, 0, rfl, fun _ => ⟨rfl, rfl⟩, fun k hk => by simp at hk⟩
set_option maxHeartbeats 4000000 in
theorem Read_any {D R : Nat} {its : List Im} {w : World} (h : Dct D R its w) (ix sb : Nat) (h1 : ix < 65536) (h2 : sb < 256) :
    Calls Try.prog 24 #[.pointer (some ⟨D, 0, none⟩), .int .u16 ix, .int .u8 sb] w fun e w' => ∃ x, e = .returned (.tuple #[x, .int .u32 (rdC its ix sb)]) ∧ Bytes w' x (rdL its ix sb) ∧ Below w.heap.size w w' := by
  have HC : Hid (rdC its ix sb = match fnd its ix sb with
    | none => noc its ix
    | some i => if i.e.ac = 1 then 100728833 else 0) := rfl
  have HL : Hid (rdL its ix sb = match fnd its ix sb with
    | none => []
    | some i => if i.e.ac = 1 then [] else i.v.enc) := rfl
  generalize rdC its ix sb = C at *
  generalize rdL its ix sb = L at *
  cases hf : fnd its ix sb with
  | none =>
    rw [hf] at HC HL
    have hF := find_none h ix sb h1 h2 hf
    have d1 : ((noc its ix : Int) != 0) = true := by have := noc_ne its ix; simp; omega
    generalize noc its ix = N at *
    clear h hf
    go_enter Try.func24, Try.ntmps24
    go_wp2_with fail
    refine hF.mono ?_
    rintro e w1 ⟨rfl, b1⟩
    clear hF
    go_wp2
    go_ret2
    exact ⟨_, by rw [HC.out]; rfl, by rw [HL.out]; exact bytes_nil _, b1⟩
  | some i =>
    rw [hf] at HC HL
    have hF := find_some h ix sb h1 h2 hf
    have hI := h.items i (fnd_mem hf)
    unfold ptrI at hF
    clear h hf
    go_enter Try.func24, Try.ntmps24
    go_wp2_with fail
    refine hF.mono ?_
    rintro e w1 ⟨rfl, b1⟩
    have hI1 := hI.below b1
    obtain ⟨_, _, c2, _⟩ := hI1.c
    have hY := ibytes_any hI1
    clear hF hI hI1
    by_cases ha : i.e.ac = 1
    · have HC2 := hidOf2 (show C = 100728833 from HC.out.trans (if_pos ha))
      have HL2 := hidOf2 (show L = [] from HL.out.trans (if_pos ha))
      rw [ha] at c2
      clear HC HL hY ha
      go_wp2
      go_ret2
      exact ⟨_, by rw [HC2.out]; rfl, by rw [HL2.out]; exact bytes_nil _, b1⟩
    · have HC2 := hidOf2 (show C = 0 from HC.out.trans (if_neg ha))
      have HL2 := hidOf2 (show L = i.v.enc from HL.out.trans (if_neg ha))
      have d1 : (i.e.ac == 1) = false := by simpa using ha
      clear HC HL ha
      generalize i.e.ac = A at *
      go_wp2_with fail
      refine hY.mono ?_
      rintro y w2 ⟨x, rfl, hB, b2⟩
      obtain ⟨ao, cap, rfl⟩ := bytes_shape hB
      have HB := hidOf2 hB
      have B2 := b1.trans (b2.mono b1.size)
      clear hY hB b2 b1
      go_wp2
      go_ret2
      exact ⟨_, by rw [HC2.out]; rfl, by rw [HL2.out]; exact HB.out, B2⟩
end Go.Proofs.Ytdcogpadioeclaa
