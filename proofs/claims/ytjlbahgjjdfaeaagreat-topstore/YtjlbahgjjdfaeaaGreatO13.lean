/- Contracts: bytes, Read, Save: what is laid down. -/
import Derived.Test.YtjlbahgjjdfaeaaGreatO12
import Derived.Test.YtjlbahgjjdfaeaaGreatTyE
namespace Go.Proofs.YtjlbahgjjdfaeaaGreat
open Go.RowKit Go.Proofs.Ty Go.Sort Go.Lib
set_option linter.unusedVariables false
set_option maxRecDepth 1000000
set_option linter.unusedSimpArgs false
theorem bytes_shape {w : World} {v : Value} {l : List UInt8} (h : Bytes w v l) : ∃ ao cap, v = .slice ao l.length cap := by obtain ⟨ao, cap, h, _⟩ := h; exact ⟨ao, cap, h⟩
theorem ibytes_any {b : Nat} {e : En} {v : Vl} {w : World} (h : Ib b e v w) :
    Calls Tryz.prog 18 #[.pointer (some ⟨b, 0, none⟩)] w fun y w' => ∃ x, y = .returned x ∧ Bytes w' x v.enc ∧ Below w.heap.size w w' := by
  have hE := Encode_v v w
  have r1 := h.r14
  go_enter Tryz.func18, Tryz.ntmps18
  go_wp2_with (first | (refine ldV r1 rfl _ rfl rfl ?_))
  refine hE.mono ?_
  rintro y w1 ⟨x, rfl, hB, b1⟩
  obtain ⟨ao, cap, rfl⟩ := bytes_shape hB
  have HB := hidOf2 hB
  clear hE r1 h hB
  go_wp2
  go_ret
  exact ⟨_, rfl, HB.out, b1⟩
/-- What Read tells. -/
def rdC (its : List Im) (ix sb : Nat) : Nat := match fnd its ix sb with
  | none => noc its ix
  | some i => if i.e.ac = 1 then 100728833 else 0
def rdL (its : List Im) (ix sb : Nat) : List UInt8 := match fnd its ix sb with
  | none => []
  | some i => if i.e.ac = 1 then [] else i.v.enc
theorem bytes_nil (w : World) : Bytes w (.slice none 0 0) [] := ⟨none, 0, rfl, fun _ => ⟨rfl, rfl⟩, fun k hk => by simp at hk⟩
end Go.Proofs.YtjlbahgjjdfaeaaGreat
