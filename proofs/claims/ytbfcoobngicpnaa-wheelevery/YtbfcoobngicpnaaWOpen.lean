/- What a row over a wheel's law asks of the program. -/
import Derived.Test.YtbfcoobngicpnaaLawWEv
import Derived.Test.YtbfcoobngicpnaaRows
import Derived.ProofKit
import Derived.OpenShut
import Derived.ShutString
import Derived.ChangeOld
import Derived.SizedLaws
namespace Go.Proofs.Ytbfcoobngicpnaa
open Go.RowKit
theorem own : ownKnob Try.prog.godebug = none := by kernel_rfl
theorem u16_of {z : Int} (h : (Lit.int .u16 z).wf = true) : ∃ a : Nat, z = (a : Int) ∧ a < 65536 := by
  have hx : 0 ≤ z ∧ z ≤ 65535 := by simpa [Lit.wf, IntKind.min, IntKind.max, IntKind.signed, IntKind.bits] using h
  exact ⟨z.toNat, by omega, by omega⟩
theorem wevery_int (x y z : Int) (hx : (Lit.int .u16 x).wf = true) (hy : (Lit.int .u16 y).wf = true) (hz : (Lit.int .u16 z).wf = true) (w : World) : Calls Try.prog 6 #[.int .u16 x, .int .u16 y, .int .u16 z] w fun e w' => e = .returned (.bool true) ∧ Below w.heap.size w w' := by
  obtain ⟨a, rfl, ha⟩ := u16_of hx
  obtain ⟨b, rfl, hb⟩ := u16_of hy
  obtain ⟨c, rfl, hc⟩ := u16_of hz
  exact wevery_nat a b c ha hb hc w
end Go.Proofs.Ytbfcoobngicpnaa
