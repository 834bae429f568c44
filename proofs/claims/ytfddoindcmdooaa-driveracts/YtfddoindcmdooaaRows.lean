/-
  No cell of these rows narrows 'for every input' (looked for: loops, veiled, ifaces, maps, wideKeys, modest, calm, conditions, laid).
  DERIVED. THE GIVEN ROWS OF THIS SEAT. 4 by the template 'for every input the law returns true; each argument reads behind the call as it read before'; 0 by the template 'total and deterministic' (their statements: YtfddoindcmdooaaTotals.lean).
  GIVEN WITH THE SEED: the statements are not yours to turn. If you find one false, say at which input.
  Laid BY PROGRAM, IN A SANDBOX (cutbox-rows.mjs): the forced cells as the released guide's own fill.sh prints them over the translation f6aaaefc8d231b90… (all of the seat's roots in one cut). By AI agents, Wed Nov 11 2026. No macro, syntax, notation, axiom, sorry.
-/
import Derived.Test.YtfddoindcmdooaaChecked
import GoSem.Claim
import GoSem.ClaimJoined
import GoSem.ClaimMapViews
import Derived.JoinedTies
import Derived.KernelRfl
namespace Go.Proofs.Ytfddoindcmdooaa
/- THE CELL 'sum', in the pinned program and in every row, IS THE sha256 OF THE DUMP (.gsa) THAT YtfddoindcmdooaaProg.lean LOADS. Nothing in Lean hashes anything: it is a label: what it is worth is what the hold of that sum in a sandbox is worth. -/
noncomputable def Try.pinned : Pinned := { name := "ytfddoindcmdooaa", sum := "f6aaaefc8d231b90592fb502b63900093b2b9d689d0e00f70f897209d8f479c6", checked := Try.checked }
namespace Rows
def none {H : Type} : Left H := { results := [], args := [] }

/-- 'tramwaylaw05.DriverActs': WHATEVER THE INPUT: true; the input reads as it did. -/
def driverActsSpec : ChangeSpec := { name := "driverActs", fn := fun _ => fun
  | [d1, d2] => { results := [.lit (.bool true)], args := [d1, d2] }
  | _ => none }
def driverActsRow : OpenClaim := { program := "ytfddoindcmdooaa", sum := "f6aaaefc8d231b90592fb502b63900093b2b9d689d0e00f70f897209d8f479c6", func := "tramway/tramwaylaw05.DriverActs", spec := "driverActs", inPlace := ["internal/abi.NoEscape"], unfollowed := true, recurses := true, apart := false }
def DriverActsSaid : Prop := driverActsRow.holds Try.pinned (OpenSpec.ofChange driverActsSpec)

/-- ITS FALSE NEIGHBOUR: 'it returns false'. Refute it at one input. -/
def driverActsWrong : ChangeSpec := { name := "driverActs", fn := fun _ => fun
  | [d1, d2] => { results := [.lit (.bool false)], args := [d1, d2] }
  | _ => none }
def DriverActsWrongFalsely : Prop := driverActsRow.holds Try.pinned (OpenSpec.ofChange driverActsWrong)

/-- 'tramwaylaw05.DriverOrder': WHATEVER THE INPUT: true; the input reads as it did. -/
def driverOrderSpec : ChangeSpec := { name := "driverOrder", fn := fun _ => fun
  | [d] => { results := [.lit (.bool true)], args := [d] }
  | _ => none }
def driverOrderRow : OpenClaim := { program := "ytfddoindcmdooaa", sum := "f6aaaefc8d231b90592fb502b63900093b2b9d689d0e00f70f897209d8f479c6", func := "tramway/tramwaylaw05.DriverOrder", spec := "driverOrder", inPlace := ["internal/abi.NoEscape"], unfollowed := true, recurses := true, apart := false }
def DriverOrderSaid : Prop := driverOrderRow.holds Try.pinned (OpenSpec.ofChange driverOrderSpec)

/-- ITS FALSE NEIGHBOUR: 'it returns false'. Refute it at one input. -/
def driverOrderWrong : ChangeSpec := { name := "driverOrder", fn := fun _ => fun
  | [d] => { results := [.lit (.bool false)], args := [d] }
  | _ => none }
def DriverOrderWrongFalsely : Prop := driverOrderRow.holds Try.pinned (OpenSpec.ofChange driverOrderWrong)

/-- 'tramwaylaw05.DriverRoom': WHATEVER THE INPUT: true; the input reads as it did. -/
def driverRoomSpec : ChangeSpec := { name := "driverRoom", fn := fun _ => fun
  | [d1, d2] => { results := [.lit (.bool true)], args := [d1, d2] }
  | _ => none }
def driverRoomRow : OpenClaim := { program := "ytfddoindcmdooaa", sum := "f6aaaefc8d231b90592fb502b63900093b2b9d689d0e00f70f897209d8f479c6", func := "tramway/tramwaylaw05.DriverRoom", spec := "driverRoom", inPlace := ["internal/abi.NoEscape"], unfollowed := true, recurses := true, apart := false }
def DriverRoomSaid : Prop := driverRoomRow.holds Try.pinned (OpenSpec.ofChange driverRoomSpec)

/-- ITS FALSE NEIGHBOUR: 'it returns false'. Refute it at one input. -/
def driverRoomWrong : ChangeSpec := { name := "driverRoom", fn := fun _ => fun
  | [d1, d2] => { results := [.lit (.bool false)], args := [d1, d2] }
  | _ => none }
def DriverRoomWrongFalsely : Prop := driverRoomRow.holds Try.pinned (OpenSpec.ofChange driverRoomWrong)

/-- 'tramwaylaw05.DriverFilters': WHATEVER THE INPUT: true; the input reads as it did. -/
def driverFiltersSpec : ChangeSpec := { name := "driverFilters", fn := fun _ => fun
  | [d1, d2] => { results := [.lit (.bool true)], args := [d1, d2] }
  | _ => none }
def driverFiltersRow : OpenClaim := { program := "ytfddoindcmdooaa", sum := "f6aaaefc8d231b90592fb502b63900093b2b9d689d0e00f70f897209d8f479c6", func := "tramway/tramwaylaw05.DriverFilters", spec := "driverFilters", inPlace := ["internal/abi.NoEscape"], unfollowed := true, recurses := true, apart := false }
def DriverFiltersSaid : Prop := driverFiltersRow.holds Try.pinned (OpenSpec.ofChange driverFiltersSpec)

/-- ITS FALSE NEIGHBOUR: 'it returns false'. Refute it at one input. -/
def driverFiltersWrong : ChangeSpec := { name := "driverFilters", fn := fun _ => fun
  | [d1, d2] => { results := [.lit (.bool false)], args := [d1, d2] }
  | _ => none }
def DriverFiltersWrongFalsely : Prop := driverFiltersRow.holds Try.pinned (OpenSpec.ofChange driverFiltersWrong)

/- THE SECOND FORM. 'bulk': how many values and letters a reading holds, each counted each time it is reached (what is shared counts as often as it is met; a slice's spare places count too). A statement '..UptoSaid' is the law's where the arguments, and the package variables that the reading takes, are together of bulk at most 1048576: NARROWER than '..Said'. Prove '..Said' where nothing that the law and all that it calls make is longer than what came in: it says more and counts as full. Else prove '..UptoSaid'. A law counts once. -/
mutual
def uptoBulk {H : Type} : DataW H → Nat
  | .lit (.string bytes) => bytes.length + 1
  | .lit _ => 1
  | .nil => 1
  | .ptr d => uptoBulk d + 1
  | .slice elems spare => uptoBulkAll elems + uptoBulkAll spare + 1
  | .agg parts => uptoBulkAll parts + 1
  | .iface _ d => uptoBulk d + 1
  | .map entries => uptoBulkEntries entries + 1
  | .held _ => 1
def uptoBulkAll {H : Type} : List (DataW H) → Nat
  | [] => 0
  | d :: r => uptoBulk d + uptoBulkAll r
def uptoBulkEntries {H : Type} : List (Lit × DataW H) → Nat
  | [] => 0
  | x :: r => uptoBulkEntry x + uptoBulkEntries r
def uptoBulkEntry {H : Type} : Lit × DataW H → Nat
  | (.string bytes, d) => bytes.length + uptoBulk d + 1
  | (_, d) => uptoBulk d + 1
 end
def uptoSmall : (H : Type) → List (DataW H) → Bool := fun _ ds => decide (uptoBulkAll ds ≤ 1048576)
def OpenSpec.upto (s : _root_.Go.ChangeSpec) : _root_.Go.OpenSpec := { _root_.Go.OpenSpec.ofChange s with cond := some uptoSmall }

/-- 'tramwaylaw05.DriverActs', WHERE WHAT IT READS IS OF BULK AT MOST 1048576: true; the input reads as it did. -/
def driverActsUptoRow : OpenClaim := { program := "ytfddoindcmdooaa", sum := "f6aaaefc8d231b90592fb502b63900093b2b9d689d0e00f70f897209d8f479c6", func := "tramway/tramwaylaw05.DriverActs", spec := "driverActs", inPlace := ["internal/abi.NoEscape"], unfollowed := true, recurses := true, apart := false, narrowed := true }
def DriverActsUptoSaid : Prop := driverActsUptoRow.holds Try.pinned (OpenSpec.upto driverActsSpec)

/-- 'tramwaylaw05.DriverOrder', WHERE WHAT IT READS IS OF BULK AT MOST 1048576: true; the input reads as it did. -/
def driverOrderUptoRow : OpenClaim := { program := "ytfddoindcmdooaa", sum := "f6aaaefc8d231b90592fb502b63900093b2b9d689d0e00f70f897209d8f479c6", func := "tramway/tramwaylaw05.DriverOrder", spec := "driverOrder", inPlace := ["internal/abi.NoEscape"], unfollowed := true, recurses := true, apart := false, narrowed := true }
def DriverOrderUptoSaid : Prop := driverOrderUptoRow.holds Try.pinned (OpenSpec.upto driverOrderSpec)

/-- 'tramwaylaw05.DriverRoom', WHERE WHAT IT READS IS OF BULK AT MOST 1048576: true; the input reads as it did. -/
def driverRoomUptoRow : OpenClaim := { program := "ytfddoindcmdooaa", sum := "f6aaaefc8d231b90592fb502b63900093b2b9d689d0e00f70f897209d8f479c6", func := "tramway/tramwaylaw05.DriverRoom", spec := "driverRoom", inPlace := ["internal/abi.NoEscape"], unfollowed := true, recurses := true, apart := false, narrowed := true }
def DriverRoomUptoSaid : Prop := driverRoomUptoRow.holds Try.pinned (OpenSpec.upto driverRoomSpec)

/-- 'tramwaylaw05.DriverFilters', WHERE WHAT IT READS IS OF BULK AT MOST 1048576: true; the input reads as it did. -/
def driverFiltersUptoRow : OpenClaim := { program := "ytfddoindcmdooaa", sum := "f6aaaefc8d231b90592fb502b63900093b2b9d689d0e00f70f897209d8f479c6", func := "tramway/tramwaylaw05.DriverFilters", spec := "driverFilters", inPlace := ["internal/abi.NoEscape"], unfollowed := true, recurses := true, apart := false, narrowed := true }
def DriverFiltersUptoSaid : Prop := driverFiltersUptoRow.holds Try.pinned (OpenSpec.upto driverFiltersSpec)

end Rows
end Go.Proofs.Ytfddoindcmdooaa
