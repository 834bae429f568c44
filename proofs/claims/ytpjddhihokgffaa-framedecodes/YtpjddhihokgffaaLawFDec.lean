/- The law FrameDecodes returns true whatever text comes in. -/
import Derived.Test.YtpjddhihokgffaaLive2
import Derived.Test.YtpjddhihokgffaaRq5
import Derived.Test.YtpjddhihokgffaaEqW
import Derived.Test.YtpjddhihokgffaaMathCut
import Derived.Test.YtpjddhihokgffaaRPla
namespace Go.Proofs.Ytpjddhihokgffaa
open Go.RowKit Go.Proofs.Bits
set_option linter.unusedVariables false
set_option maxRecDepth 1000000

set_option maxHeartbeats 4000000 in
theorem fdec_walk (S : ByteArray) (w : World) :
    Calls Try.prog 4 #[.string S] w fun e w' => e = .returned (.bool true) ∧ Below w.heap.size w w' := by
  have HD := Decode_any S.data.toList
  have HD2 := r2Decode_any S.data.toList
  rw [show (⟨S.data.toList.toArray⟩ : ByteArray) = S by simp] at HD HD2
  unfold decV Fr.val at HD HD2
  generalize decF S.data.toList = F at *
  generalize decN S.data.toList = N at *
  generalize decE S.data.toList = X at *
  have hs := frB_same F
  go_enter Try.func4, Try.ntmps4
  go_wp2_with fail
  refine (HD _).mono ?_
  rintro e w1 ⟨rfl, b1⟩
  have gn := Fa.new w1 Fr.nul
  have g1 := gn.row F
  have s1 := b1.size
  have B1 : Below w.heap.size w ((w1.alloc (.cells Fr.nul.arr 25)).setRow w1.heap.size F.arr) := below_row (b1.alloc b1.size _) b1.size (by rw [size_alloc]; omega) _
  clear b1 HD
  go_wp2_with (first | refine gn.sd F rfl _ _ rfl rfl rfl ?_)
  generalize (w1.alloc (.cells Fr.nul.arr 25)).setRow w1.heap.size F.arr = w2 at *
  generalize hq : w1.heap.size = q at *
  refine (HD2 _).mono ?_
  rintro e w3 ⟨rfl, b3⟩
  have s2 : w.heap.size ≤ w2.heap.size := B1.size
  have g3 : Fa q F w3 := (b3.block _ g1.lt).trans g1
  have hn := Fa.new w3 Fr.nul
  have h4 := hn.row F
  have l3 := g3.lt
  have g4 : Fa q F ((w3.alloc (.cells Fr.nul.arr 25)).setRow w3.heap.size F.arr) := (setRow_other _ _ _ _ (by omega)).trans (g3.alloc _)
  have B3 := B1.trans (b3.mono s2)
  have B4 : Below w.heap.size w ((w3.alloc (.cells Fr.nul.arr 25)).setRow w3.heap.size F.arr) := below_row (B3.alloc B3.size _) B3.size (by rw [size_alloc]; omega) _
  clear b3 HD2 g3 g1 gn B1 B3
  go_wp2_with (first | refine hn.sd F rfl _ _ rfl rfl rfl ?_ | refine g4.ldw rfl _ rfl rfl ?_ | refine h4.ldw rfl _ rfl rfl ?_ | refine eqw F F rfl _ _ rfl rfl rfl ?_)
  refine (lives2_any _).mono ?_
  rintro e w5 ⟨rfl, b5⟩
  go_wp2
  go_ret
  exact ⟨rfl, B4.trans (b5.mono B4.size)⟩
end Go.Proofs.Ytpjddhihokgffaa
