/-
  No cell of these rows narrows 'for every input' (looked for: loops, veiled, ifaces, maps, wideKeys, modest, calm, conditions, laid).
  DERIVED. THE GIVEN ROWS OF THIS SEAT. 6 by the template 'for every input the law returns true; each argument reads behind the call as it read before'; 0 by the template 'total and deterministic' (their statements: YtcpgpnilglbmoaaTotals.lean).
  GIVEN WITH THE SEED: the statements are not yours to turn. If you find one false, say at which input.
  Laid BY PROGRAM, IN A SANDBOX (cutbox-rows.mjs): the forced cells as the released guide's own fill.sh prints them over the translation a93ed7b1df2a6343… (all of the seat's roots in one cut). By AI agents, Wed Nov 11 2026. No macro, syntax, notation, axiom, sorry.
-/
import Derived.Test.YtcpgpnilglbmoaaChecked
import GoSem.Claim
import GoSem.ClaimJoined
import GoSem.ClaimMapViews
import Derived.JoinedTies
import Derived.KernelRfl
namespace Go.Proofs.Ytcpgpnilglbmoaa
/- THE CELL 'sum', in the pinned program and in every row, IS THE sha256 OF THE DUMP (.gsa) THAT YtcpgpnilglbmoaaProg.lean LOADS. Nothing in Lean hashes anything: it is a label: what it is worth is what the hold of that sum in a sandbox is worth. -/
noncomputable def Try.pinned : Pinned := { name := "ytcpgpnilglbmoaa", sum := "a93ed7b1df2a6343296abab2f2dbc9dd48b39e5a243c8b7b828d1f4638efd35f", checked := Try.checked }
namespace Rows
def none {H : Type} : Left H := { results := [], args := [] }

/-- 'tramwaylaw01.BitsNumbers': WHATEVER THE INPUT: true; the input reads as it did. -/
def bitsNumbersSpec : ChangeSpec := { name := "bitsNumbers", fn := fun _ => fun
  | [d1, d2, d3] => { results := [.lit (.bool true)], args := [d1, d2, d3] }
  | _ => none }
def bitsNumbersRow : OpenClaim := { program := "ytcpgpnilglbmoaa", sum := "a93ed7b1df2a6343296abab2f2dbc9dd48b39e5a243c8b7b828d1f4638efd35f", func := "tramway/tramwaylaw01.BitsNumbers", spec := "bitsNumbers", inPlace := ["internal/abi.NoEscape"], apart := false }
def BitsNumbersSaid : Prop := bitsNumbersRow.holds Try.pinned (OpenSpec.ofChange bitsNumbersSpec)

/-- ITS FALSE NEIGHBOUR: 'it returns false'. Refute it at one input. -/
def bitsNumbersWrong : ChangeSpec := { name := "bitsNumbers", fn := fun _ => fun
  | [d1, d2, d3] => { results := [.lit (.bool false)], args := [d1, d2, d3] }
  | _ => none }
def BitsNumbersWrongFalsely : Prop := bitsNumbersRow.holds Try.pinned (OpenSpec.ofChange bitsNumbersWrong)

/-- 'tramwaylaw01.BitsStuffs': WHATEVER THE INPUT: true; the input reads as it did. -/
def bitsStuffsSpec : ChangeSpec := { name := "bitsStuffs", fn := fun _ => fun
  | [d] => { results := [.lit (.bool true)], args := [d] }
  | _ => none }
def bitsStuffsRow : OpenClaim := { program := "ytcpgpnilglbmoaa", sum := "a93ed7b1df2a6343296abab2f2dbc9dd48b39e5a243c8b7b828d1f4638efd35f", func := "tramway/tramwaylaw01.BitsStuffs", spec := "bitsStuffs", inPlace := ["internal/abi.NoEscape"], apart := false }
def BitsStuffsSaid : Prop := bitsStuffsRow.holds Try.pinned (OpenSpec.ofChange bitsStuffsSpec)

/-- ITS FALSE NEIGHBOUR: 'it returns false'. Refute it at one input. -/
def bitsStuffsWrong : ChangeSpec := { name := "bitsStuffs", fn := fun _ => fun
  | [d] => { results := [.lit (.bool false)], args := [d] }
  | _ => none }
def BitsStuffsWrongFalsely : Prop := bitsStuffsRow.holds Try.pinned (OpenSpec.ofChange bitsStuffsWrong)

/-- 'tramwaylaw01.BitsSums': WHATEVER THE INPUT: true; the input reads as it did. -/
def bitsSumsSpec : ChangeSpec := { name := "bitsSums", fn := fun _ => fun
  | [d1, d2] => { results := [.lit (.bool true)], args := [d1, d2] }
  | _ => none }
def bitsSumsRow : OpenClaim := { program := "ytcpgpnilglbmoaa", sum := "a93ed7b1df2a6343296abab2f2dbc9dd48b39e5a243c8b7b828d1f4638efd35f", func := "tramway/tramwaylaw01.BitsSums", spec := "bitsSums", inPlace := ["internal/abi.NoEscape"], apart := false }
def BitsSumsSaid : Prop := bitsSumsRow.holds Try.pinned (OpenSpec.ofChange bitsSumsSpec)

/-- ITS FALSE NEIGHBOUR: 'it returns false'. Refute it at one input. -/
def bitsSumsWrong : ChangeSpec := { name := "bitsSums", fn := fun _ => fun
  | [d1, d2] => { results := [.lit (.bool false)], args := [d1, d2] }
  | _ => none }
def BitsSumsWrongFalsely : Prop := bitsSumsRow.holds Try.pinned (OpenSpec.ofChange bitsSumsWrong)

/-- 'tramwaylaw01.BitsFive': WHATEVER THE INPUT: true; the input reads as it did. -/
def bitsFiveSpec : ChangeSpec := { name := "bitsFive", fn := fun _ => fun
  | [d1, d2] => { results := [.lit (.bool true)], args := [d1, d2] }
  | _ => none }
def bitsFiveRow : OpenClaim := { program := "ytcpgpnilglbmoaa", sum := "a93ed7b1df2a6343296abab2f2dbc9dd48b39e5a243c8b7b828d1f4638efd35f", func := "tramway/tramwaylaw01.BitsFive", spec := "bitsFive", inPlace := ["internal/abi.NoEscape"], apart := false }
def BitsFiveSaid : Prop := bitsFiveRow.holds Try.pinned (OpenSpec.ofChange bitsFiveSpec)

/-- ITS FALSE NEIGHBOUR: 'it returns false'. Refute it at one input. -/
def bitsFiveWrong : ChangeSpec := { name := "bitsFive", fn := fun _ => fun
  | [d1, d2] => { results := [.lit (.bool false)], args := [d1, d2] }
  | _ => none }
def BitsFiveWrongFalsely : Prop := bitsFiveRow.holds Try.pinned (OpenSpec.ofChange bitsFiveWrong)

/-- 'tramwaylaw01.BitsBursts': WHATEVER THE INPUT: true; the input reads as it did. -/
def bitsBurstsSpec : ChangeSpec := { name := "bitsBursts", fn := fun _ => fun
  | [d1, d2, d3] => { results := [.lit (.bool true)], args := [d1, d2, d3] }
  | _ => none }
def bitsBurstsRow : OpenClaim := { program := "ytcpgpnilglbmoaa", sum := "a93ed7b1df2a6343296abab2f2dbc9dd48b39e5a243c8b7b828d1f4638efd35f", func := "tramway/tramwaylaw01.BitsBursts", spec := "bitsBursts", inPlace := ["internal/abi.NoEscape"], apart := false }
def BitsBurstsSaid : Prop := bitsBurstsRow.holds Try.pinned (OpenSpec.ofChange bitsBurstsSpec)

/-- ITS FALSE NEIGHBOUR: 'it returns false'. Refute it at one input. -/
def bitsBurstsWrong : ChangeSpec := { name := "bitsBursts", fn := fun _ => fun
  | [d1, d2, d3] => { results := [.lit (.bool false)], args := [d1, d2, d3] }
  | _ => none }
def BitsBurstsWrongFalsely : Prop := bitsBurstsRow.holds Try.pinned (OpenSpec.ofChange bitsBurstsWrong)

/-- 'tramwaylaw01.BitsWires': WHATEVER THE INPUT: true; the input reads as it did. -/
def bitsWiresSpec : ChangeSpec := { name := "bitsWires", fn := fun _ => fun
  | [d1, d2, d3] => { results := [.lit (.bool true)], args := [d1, d2, d3] }
  | _ => none }
def bitsWiresRow : OpenClaim := { program := "ytcpgpnilglbmoaa", sum := "a93ed7b1df2a6343296abab2f2dbc9dd48b39e5a243c8b7b828d1f4638efd35f", func := "tramway/tramwaylaw01.BitsWires", spec := "bitsWires", inPlace := ["internal/abi.NoEscape"], apart := false }
def BitsWiresSaid : Prop := bitsWiresRow.holds Try.pinned (OpenSpec.ofChange bitsWiresSpec)

/-- ITS FALSE NEIGHBOUR: 'it returns false'. Refute it at one input. -/
def bitsWiresWrong : ChangeSpec := { name := "bitsWires", fn := fun _ => fun
  | [d1, d2, d3] => { results := [.lit (.bool false)], args := [d1, d2, d3] }
  | _ => none }
def BitsWiresWrongFalsely : Prop := bitsWiresRow.holds Try.pinned (OpenSpec.ofChange bitsWiresWrong)

/- THE SECOND FORM. 'bulk': how many values and letters a reading holds, each counted each time it is reached (what is shared counts as often as it is met; a slice's spare places count too). A statement '..UptoSaid' is the law's where the arguments, and the package variables that the reading takes, are together of bulk at most 1048576: NARROWER than '..Said'. Prove '..Said' where nothing that the law and all that it calls make is longer than what came in: it says more and counts as full. Else prove '..UptoSaid'. A law counts once. -/
mutual
def uptoBulk {H : Type} : DataW H → Nat
  | .lit (.string bytes) => bytes.length + 1
  | .lit _ => 1
  | .nil => 1
  | .ptr d => uptoBulk d + 1
  | .slice elems spare => uptoBulkAll elems + uptoBulkAll spare + 1
  | .agg parts => uptoBulkAll parts + 1
  | .iface _ d => uptoBulk d + 1
  | .map entries => uptoBulkEntries entries + 1
  | .held _ => 1
def uptoBulkAll {H : Type} : List (DataW H) → Nat
  | [] => 0
  | d :: r => uptoBulk d + uptoBulkAll r
def uptoBulkEntries {H : Type} : List (Lit × DataW H) → Nat
  | [] => 0
  | x :: r => uptoBulkEntry x + uptoBulkEntries r
def uptoBulkEntry {H : Type} : Lit × DataW H → Nat
  | (.string bytes, d) => bytes.length + uptoBulk d + 1
  | (_, d) => uptoBulk d + 1
 end
def uptoSmall : (H : Type) → List (DataW H) → Bool := fun _ ds => decide (uptoBulkAll ds ≤ 1048576)
def OpenSpec.upto (s : _root_.Go.ChangeSpec) : _root_.Go.OpenSpec := { _root_.Go.OpenSpec.ofChange s with cond := some uptoSmall }

/-- 'tramwaylaw01.BitsNumbers', WHERE WHAT IT READS IS OF BULK AT MOST 1048576: true; the input reads as it did. -/
def bitsNumbersUptoRow : OpenClaim := { program := "ytcpgpnilglbmoaa", sum := "a93ed7b1df2a6343296abab2f2dbc9dd48b39e5a243c8b7b828d1f4638efd35f", func := "tramway/tramwaylaw01.BitsNumbers", spec := "bitsNumbers", inPlace := ["internal/abi.NoEscape"], apart := false, narrowed := true }
def BitsNumbersUptoSaid : Prop := bitsNumbersUptoRow.holds Try.pinned (OpenSpec.upto bitsNumbersSpec)

/-- 'tramwaylaw01.BitsStuffs', WHERE WHAT IT READS IS OF BULK AT MOST 1048576: true; the input reads as it did. -/
def bitsStuffsUptoRow : OpenClaim := { program := "ytcpgpnilglbmoaa", sum := "a93ed7b1df2a6343296abab2f2dbc9dd48b39e5a243c8b7b828d1f4638efd35f", func := "tramway/tramwaylaw01.BitsStuffs", spec := "bitsStuffs", inPlace := ["internal/abi.NoEscape"], apart := false, narrowed := true }
def BitsStuffsUptoSaid : Prop := bitsStuffsUptoRow.holds Try.pinned (OpenSpec.upto bitsStuffsSpec)

/-- 'tramwaylaw01.BitsSums', WHERE WHAT IT READS IS OF BULK AT MOST 1048576: true; the input reads as it did. -/
def bitsSumsUptoRow : OpenClaim := { program := "ytcpgpnilglbmoaa", sum := "a93ed7b1df2a6343296abab2f2dbc9dd48b39e5a243c8b7b828d1f4638efd35f", func := "tramway/tramwaylaw01.BitsSums", spec := "bitsSums", inPlace := ["internal/abi.NoEscape"], apart := false, narrowed := true }
def BitsSumsUptoSaid : Prop := bitsSumsUptoRow.holds Try.pinned (OpenSpec.upto bitsSumsSpec)

/-- 'tramwaylaw01.BitsFive', WHERE WHAT IT READS IS OF BULK AT MOST 1048576: true; the input reads as it did. -/
def bitsFiveUptoRow : OpenClaim := { program := "ytcpgpnilglbmoaa", sum := "a93ed7b1df2a6343296abab2f2dbc9dd48b39e5a243c8b7b828d1f4638efd35f", func := "tramway/tramwaylaw01.BitsFive", spec := "bitsFive", inPlace := ["internal/abi.NoEscape"], apart := false, narrowed := true }
def BitsFiveUptoSaid : Prop := bitsFiveUptoRow.holds Try.pinned (OpenSpec.upto bitsFiveSpec)

/-- 'tramwaylaw01.BitsBursts', WHERE WHAT IT READS IS OF BULK AT MOST 1048576: true; the input reads as it did. -/
def bitsBurstsUptoRow : OpenClaim := { program := "ytcpgpnilglbmoaa", sum := "a93ed7b1df2a6343296abab2f2dbc9dd48b39e5a243c8b7b828d1f4638efd35f", func := "tramway/tramwaylaw01.BitsBursts", spec := "bitsBursts", inPlace := ["internal/abi.NoEscape"], apart := false, narrowed := true }
def BitsBurstsUptoSaid : Prop := bitsBurstsUptoRow.holds Try.pinned (OpenSpec.upto bitsBurstsSpec)

/-- 'tramwaylaw01.BitsWires', WHERE WHAT IT READS IS OF BULK AT MOST 1048576: true; the input reads as it did. -/
def bitsWiresUptoRow : OpenClaim := { program := "ytcpgpnilglbmoaa", sum := "a93ed7b1df2a6343296abab2f2dbc9dd48b39e5a243c8b7b828d1f4638efd35f", func := "tramway/tramwaylaw01.BitsWires", spec := "bitsWires", inPlace := ["internal/abi.NoEscape"], apart := false, narrowed := true }
def BitsWiresUptoSaid : Prop := bitsWiresUptoRow.holds Try.pinned (OpenSpec.upto bitsWiresSpec)

end Rows
end Go.Proofs.Ytcpgpnilglbmoaa
