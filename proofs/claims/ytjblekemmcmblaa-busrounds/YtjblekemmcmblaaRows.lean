/-
  No cell of these rows narrows 'for every input' (looked for: loops, veiled, ifaces, maps, wideKeys, modest, calm, conditions, laid).
  DERIVED. THE GIVEN ROWS OF THIS SEAT. 5 by the template 'for every input the law returns true; each argument reads behind the call as it read before'; 0 by the template 'total and deterministic' (their statements: YtjblekemmcmblaaTotals.lean).
  GIVEN WITH THE SEED: the statements are not yours to turn. If you find one false, say at which input.
  Laid BY PROGRAM, IN A SANDBOX (cutbox-rows.mjs): the forced cells as the released guide's own fill.sh prints them over the translation 2f9bbb1158778c30… (all of the seat's roots in one cut). By AI agents, Wed Nov 11 2026. No macro, syntax, notation, axiom, sorry.
-/
import Derived.Test.YtjblekemmcmblaaChecked
import GoSem.Claim
import GoSem.ClaimJoined
import GoSem.ClaimMapViews
import Derived.JoinedTies
import Derived.KernelRfl
namespace Go.Proofs.Ytjblekemmcmblaa
/- THE CELL 'sum', in the pinned program and in every row, IS THE sha256 OF THE DUMP (.gsa) THAT YtjblekemmcmblaaProg.lean LOADS. Nothing in Lean hashes anything: it is a label: what it is worth is what the hold of that sum in a sandbox is worth. -/
noncomputable def Try.pinned : Pinned := { name := "ytjblekemmcmblaa", sum := "2f9bbb1158778c307b7238f7971ad0274d7b3b9c135d5a8a651665e08a278142", checked := Try.checked }
namespace Rows
def none {H : Type} : Left H := { results := [], args := [] }

/-- 'tramwaylaw04.BusRounds': WHATEVER THE INPUT: true; the input reads as it did. -/
def busRoundsSpec : ChangeSpec := { name := "busRounds", fn := fun _ => fun
  | [d1, d2] => { results := [.lit (.bool true)], args := [d1, d2] }
  | _ => none }
def busRoundsRow : OpenClaim := { program := "ytjblekemmcmblaa", sum := "2f9bbb1158778c307b7238f7971ad0274d7b3b9c135d5a8a651665e08a278142", func := "tramway/tramwaylaw04.BusRounds", spec := "busRounds", inPlace := ["internal/abi.NoEscape"], unfollowed := true, recurses := true, apart := false }
def BusRoundsSaid : Prop := busRoundsRow.holds Try.pinned (OpenSpec.ofChange busRoundsSpec)

/-- ITS FALSE NEIGHBOUR: 'it returns false'. Refute it at one input. -/
def busRoundsWrong : ChangeSpec := { name := "busRounds", fn := fun _ => fun
  | [d1, d2] => { results := [.lit (.bool false)], args := [d1, d2] }
  | _ => none }
def BusRoundsWrongFalsely : Prop := busRoundsRow.holds Try.pinned (OpenSpec.ofChange busRoundsWrong)

/-- 'tramwaylaw04.BusEnds': WHATEVER THE INPUT: true; the input reads as it did. -/
def busEndsSpec : ChangeSpec := { name := "busEnds", fn := fun _ => fun
  | [d] => { results := [.lit (.bool true)], args := [d] }
  | _ => none }
def busEndsRow : OpenClaim := { program := "ytjblekemmcmblaa", sum := "2f9bbb1158778c307b7238f7971ad0274d7b3b9c135d5a8a651665e08a278142", func := "tramway/tramwaylaw04.BusEnds", spec := "busEnds", inPlace := ["internal/abi.NoEscape"], unfollowed := true, recurses := true, apart := false }
def BusEndsSaid : Prop := busEndsRow.holds Try.pinned (OpenSpec.ofChange busEndsSpec)

/-- ITS FALSE NEIGHBOUR: 'it returns false'. Refute it at one input. -/
def busEndsWrong : ChangeSpec := { name := "busEnds", fn := fun _ => fun
  | [d] => { results := [.lit (.bool false)], args := [d] }
  | _ => none }
def BusEndsWrongFalsely : Prop := busEndsRow.holds Try.pinned (OpenSpec.ofChange busEndsWrong)

/-- 'tramwaylaw04.BusApart': WHATEVER THE INPUT: true; the input reads as it did. -/
def busApartSpec : ChangeSpec := { name := "busApart", fn := fun _ => fun
  | [d1, d2, d3] => { results := [.lit (.bool true)], args := [d1, d2, d3] }
  | _ => none }
def busApartRow : OpenClaim := { program := "ytjblekemmcmblaa", sum := "2f9bbb1158778c307b7238f7971ad0274d7b3b9c135d5a8a651665e08a278142", func := "tramway/tramwaylaw04.BusApart", spec := "busApart", inPlace := ["internal/abi.NoEscape"], unfollowed := true, recurses := true, apart := false }
def BusApartSaid : Prop := busApartRow.holds Try.pinned (OpenSpec.ofChange busApartSpec)

/-- ITS FALSE NEIGHBOUR: 'it returns false'. Refute it at one input. -/
def busApartWrong : ChangeSpec := { name := "busApart", fn := fun _ => fun
  | [d1, d2, d3] => { results := [.lit (.bool false)], args := [d1, d2, d3] }
  | _ => none }
def BusApartWrongFalsely : Prop := busApartRow.holds Try.pinned (OpenSpec.ofChange busApartWrong)

/-- 'tramwaylaw04.BusTurned': WHATEVER THE INPUT: true; the input reads as it did. -/
def busTurnedSpec : ChangeSpec := { name := "busTurned", fn := fun _ => fun
  | [d1, d2] => { results := [.lit (.bool true)], args := [d1, d2] }
  | _ => none }
def busTurnedRow : OpenClaim := { program := "ytjblekemmcmblaa", sum := "2f9bbb1158778c307b7238f7971ad0274d7b3b9c135d5a8a651665e08a278142", func := "tramway/tramwaylaw04.BusTurned", spec := "busTurned", inPlace := ["internal/abi.NoEscape"], unfollowed := true, recurses := true, apart := false }
def BusTurnedSaid : Prop := busTurnedRow.holds Try.pinned (OpenSpec.ofChange busTurnedSpec)

/-- ITS FALSE NEIGHBOUR: 'it returns false'. Refute it at one input. -/
def busTurnedWrong : ChangeSpec := { name := "busTurned", fn := fun _ => fun
  | [d1, d2] => { results := [.lit (.bool false)], args := [d1, d2] }
  | _ => none }
def BusTurnedWrongFalsely : Prop := busTurnedRow.holds Try.pinned (OpenSpec.ofChange busTurnedWrong)

/-- 'tramwaylaw04.BusTwice': WHATEVER THE INPUT: true; the input reads as it did. -/
def busTwiceSpec : ChangeSpec := { name := "busTwice", fn := fun _ => fun
  | [d1, d2] => { results := [.lit (.bool true)], args := [d1, d2] }
  | _ => none }
def busTwiceRow : OpenClaim := { program := "ytjblekemmcmblaa", sum := "2f9bbb1158778c307b7238f7971ad0274d7b3b9c135d5a8a651665e08a278142", func := "tramway/tramwaylaw04.BusTwice", spec := "busTwice", inPlace := ["internal/abi.NoEscape"], unfollowed := true, recurses := true, apart := false }
def BusTwiceSaid : Prop := busTwiceRow.holds Try.pinned (OpenSpec.ofChange busTwiceSpec)

/-- ITS FALSE NEIGHBOUR: 'it returns false'. Refute it at one input. -/
def busTwiceWrong : ChangeSpec := { name := "busTwice", fn := fun _ => fun
  | [d1, d2] => { results := [.lit (.bool false)], args := [d1, d2] }
  | _ => none }
def BusTwiceWrongFalsely : Prop := busTwiceRow.holds Try.pinned (OpenSpec.ofChange busTwiceWrong)

/- THE SECOND FORM. 'bulk': how many values and letters a reading holds, each counted each time it is reached (what is shared counts as often as it is met; a slice's spare places count too). A statement '..UptoSaid' is the law's where the arguments, and the package variables that the reading takes, are together of bulk at most 1048576: NARROWER than '..Said'. Prove '..Said' where nothing that the law and all that it calls make is longer than what came in: it says more and counts as full. Else prove '..UptoSaid'. A law counts once. -/
mutual
def uptoBulk {H : Type} : DataW H → Nat
  | .lit (.string bytes) => bytes.length + 1
  | .lit _ => 1
  | .nil => 1
  | .ptr d => uptoBulk d + 1
  | .slice elems spare => uptoBulkAll elems + uptoBulkAll spare + 1
  | .agg parts => uptoBulkAll parts + 1
  | .iface _ d => uptoBulk d + 1
  | .map entries => uptoBulkEntries entries + 1
  | .held _ => 1
def uptoBulkAll {H : Type} : List (DataW H) → Nat
  | [] => 0
  | d :: r => uptoBulk d + uptoBulkAll r
def uptoBulkEntries {H : Type} : List (Lit × DataW H) → Nat
  | [] => 0
  | x :: r => uptoBulkEntry x + uptoBulkEntries r
def uptoBulkEntry {H : Type} : Lit × DataW H → Nat
  | (.string bytes, d) => bytes.length + uptoBulk d + 1
  | (_, d) => uptoBulk d + 1
 end
def uptoSmall : (H : Type) → List (DataW H) → Bool := fun _ ds => decide (uptoBulkAll ds ≤ 1048576)
def OpenSpec.upto (s : _root_.Go.ChangeSpec) : _root_.Go.OpenSpec := { _root_.Go.OpenSpec.ofChange s with cond := some uptoSmall }

/-- 'tramwaylaw04.BusRounds', WHERE WHAT IT READS IS OF BULK AT MOST 1048576: true; the input reads as it did. -/
def busRoundsUptoRow : OpenClaim := { program := "ytjblekemmcmblaa", sum := "2f9bbb1158778c307b7238f7971ad0274d7b3b9c135d5a8a651665e08a278142", func := "tramway/tramwaylaw04.BusRounds", spec := "busRounds", inPlace := ["internal/abi.NoEscape"], unfollowed := true, recurses := true, apart := false, narrowed := true }
def BusRoundsUptoSaid : Prop := busRoundsUptoRow.holds Try.pinned (OpenSpec.upto busRoundsSpec)

/-- 'tramwaylaw04.BusEnds', WHERE WHAT IT READS IS OF BULK AT MOST 1048576: true; the input reads as it did. -/
def busEndsUptoRow : OpenClaim := { program := "ytjblekemmcmblaa", sum := "2f9bbb1158778c307b7238f7971ad0274d7b3b9c135d5a8a651665e08a278142", func := "tramway/tramwaylaw04.BusEnds", spec := "busEnds", inPlace := ["internal/abi.NoEscape"], unfollowed := true, recurses := true, apart := false, narrowed := true }
def BusEndsUptoSaid : Prop := busEndsUptoRow.holds Try.pinned (OpenSpec.upto busEndsSpec)

/-- 'tramwaylaw04.BusApart', WHERE WHAT IT READS IS OF BULK AT MOST 1048576: true; the input reads as it did. -/
def busApartUptoRow : OpenClaim := { program := "ytjblekemmcmblaa", sum := "2f9bbb1158778c307b7238f7971ad0274d7b3b9c135d5a8a651665e08a278142", func := "tramway/tramwaylaw04.BusApart", spec := "busApart", inPlace := ["internal/abi.NoEscape"], unfollowed := true, recurses := true, apart := false, narrowed := true }
def BusApartUptoSaid : Prop := busApartUptoRow.holds Try.pinned (OpenSpec.upto busApartSpec)

/-- 'tramwaylaw04.BusTurned', WHERE WHAT IT READS IS OF BULK AT MOST 1048576: true; the input reads as it did. -/
def busTurnedUptoRow : OpenClaim := { program := "ytjblekemmcmblaa", sum := "2f9bbb1158778c307b7238f7971ad0274d7b3b9c135d5a8a651665e08a278142", func := "tramway/tramwaylaw04.BusTurned", spec := "busTurned", inPlace := ["internal/abi.NoEscape"], unfollowed := true, recurses := true, apart := false, narrowed := true }
def BusTurnedUptoSaid : Prop := busTurnedUptoRow.holds Try.pinned (OpenSpec.upto busTurnedSpec)

/-- 'tramwaylaw04.BusTwice', WHERE WHAT IT READS IS OF BULK AT MOST 1048576: true; the input reads as it did. -/
def busTwiceUptoRow : OpenClaim := { program := "ytjblekemmcmblaa", sum := "2f9bbb1158778c307b7238f7971ad0274d7b3b9c135d5a8a651665e08a278142", func := "tramway/tramwaylaw04.BusTwice", spec := "busTwice", inPlace := ["internal/abi.NoEscape"], unfollowed := true, recurses := true, apart := false, narrowed := true }
def BusTwiceUptoSaid : Prop := busTwiceUptoRow.holds Try.pinned (OpenSpec.upto busTwiceSpec)

end Rows
end Go.Proofs.Ytjblekemmcmblaa
