/- Contracts: bytes, Read, Save: what is laid down. -/
import Derived.Test.YthalhidebkhclaaO12
import Derived.Test.YthalhidebkhclaaTyE
namespace Go.Proofs.Ythalhidebkhclaa
open Go.RowKit Go.Proofs.Ty Go.Sort Go.Lib
set_option linter.unusedVariables false
set_option maxRecDepth 1000000
set_option linter.unusedSimpArgs false
theorem bytes_shape {w : World} {v : Value} {l : List UInt8} (h : Bytes w v l) : ∃ ao cap, v = .slice ao l.length cap := by obtain ⟨ao, cap, h, _⟩ := h; exact ⟨ao, cap, h⟩
/-- What Read tells. -/
def rdC (its : List Im) (ix sb : Nat) : Nat := match fnd its ix sb with
  | none => noc its ix
  | some i => if i.e.ac = 1 then 100728833 else 0
def rdL (its : List Im) (ix sb : Nat) : List UInt8 := match fnd its ix sb with
  | none => []
  | some i => if i.e.ac = 1 then [] else i.v.enc
theorem bytes_nil (w : World) : Bytes w (.slice none 0 0) [] := ⟨none, 0, rfl, fun _ => ⟨rfl, rfl⟩, fun k hk => by simp at hk⟩
end Go.Proofs.Ythalhidebkhclaa
