/-
  No cell of these rows narrows 'for every input' (looked for: loops, veiled, ifaces, maps, wideKeys, modest, calm, conditions, laid).
  DERIVED. THE GIVEN ROWS OF THIS SEAT. 4 by the template 'for every input the law returns true; each argument reads behind the call as it read before'; 0 by the template 'total and deterministic' (their statements: YtoihcjokifjcgaaTotals.lean).
  GIVEN WITH THE SEED: the statements are not yours to turn. If you find one false, say at which input.
  Laid BY PROGRAM, IN A SANDBOX (cutbox-rows.mjs): the forced cells as the released guide's own fill.sh prints them over the translation 9e0ea541ec6222af… (all of the seat's roots in one cut). By AI agents, Wed Nov 11 2026. No macro, syntax, notation, axiom, sorry.
-/
import Derived.Test.YtoihcjokifjcgaaChecked
import GoSem.Claim
import GoSem.ClaimJoined
import GoSem.ClaimMapViews
import Derived.JoinedTies
import Derived.KernelRfl
namespace Go.Proofs.Ytoihcjokifjcgaa
/- THE CELL 'sum', in the pinned program and in every row, IS THE sha256 OF THE DUMP (.gsa) THAT YtoihcjokifjcgaaProg.lean LOADS. Nothing in Lean hashes anything: it is a label: what it is worth is what the hold of that sum in a sandbox is worth. -/
noncomputable def Try.pinned : Pinned := { name := "ytoihcjokifjcgaa", sum := "9e0ea541ec6222af6b2532b44a00855c831c53673ff506ab4d154d94c3389bec", checked := Try.checked }
namespace Rows
def none {H : Type} : Left H := { results := [], args := [] }

/-- 'tramwaylaw07.TypesEncodes': WHATEVER THE INPUT: true; the input reads as it did. -/
def typesEncodesSpec : ChangeSpec := { name := "typesEncodes", fn := fun _ => fun
  | [d1, d2] => { results := [.lit (.bool true)], args := [d1, d2] }
  | _ => none }
def typesEncodesRow : OpenClaim := { program := "ytoihcjokifjcgaa", sum := "9e0ea541ec6222af6b2532b44a00855c831c53673ff506ab4d154d94c3389bec", func := "tramway/tramwaylaw07.TypesEncodes", spec := "typesEncodes", apart := false }
def TypesEncodesSaid : Prop := typesEncodesRow.holds Try.pinned (OpenSpec.ofChange typesEncodesSpec)

/-- ITS FALSE NEIGHBOUR: 'it returns false'. Refute it at one input. -/
def typesEncodesWrong : ChangeSpec := { name := "typesEncodes", fn := fun _ => fun
  | [d1, d2] => { results := [.lit (.bool false)], args := [d1, d2] }
  | _ => none }
def TypesEncodesWrongFalsely : Prop := typesEncodesRow.holds Try.pinned (OpenSpec.ofChange typesEncodesWrong)

/-- 'tramwaylaw07.TypesDecodes': WHATEVER THE INPUT: true; the input reads as it did. -/
def typesDecodesSpec : ChangeSpec := { name := "typesDecodes", fn := fun _ => fun
  | [d1, d2] => { results := [.lit (.bool true)], args := [d1, d2] }
  | _ => none }
def typesDecodesRow : OpenClaim := { program := "ytoihcjokifjcgaa", sum := "9e0ea541ec6222af6b2532b44a00855c831c53673ff506ab4d154d94c3389bec", func := "tramway/tramwaylaw07.TypesDecodes", spec := "typesDecodes", apart := false }
def TypesDecodesSaid : Prop := typesDecodesRow.holds Try.pinned (OpenSpec.ofChange typesDecodesSpec)

/-- ITS FALSE NEIGHBOUR: 'it returns false'. Refute it at one input. -/
def typesDecodesWrong : ChangeSpec := { name := "typesDecodes", fn := fun _ => fun
  | [d1, d2] => { results := [.lit (.bool false)], args := [d1, d2] }
  | _ => none }
def TypesDecodesWrongFalsely : Prop := typesDecodesRow.holds Try.pinned (OpenSpec.ofChange typesDecodesWrong)

/-- 'tramwaylaw07.TypesOrder': WHATEVER THE INPUT: true; the input reads as it did. -/
def typesOrderSpec : ChangeSpec := { name := "typesOrder", fn := fun _ => fun
  | [d1, d2, d3] => { results := [.lit (.bool true)], args := [d1, d2, d3] }
  | _ => none }
def typesOrderRow : OpenClaim := { program := "ytoihcjokifjcgaa", sum := "9e0ea541ec6222af6b2532b44a00855c831c53673ff506ab4d154d94c3389bec", func := "tramway/tramwaylaw07.TypesOrder", spec := "typesOrder", apart := false }
def TypesOrderSaid : Prop := typesOrderRow.holds Try.pinned (OpenSpec.ofChange typesOrderSpec)

/-- ITS FALSE NEIGHBOUR: 'it returns false'. Refute it at one input. -/
def typesOrderWrong : ChangeSpec := { name := "typesOrder", fn := fun _ => fun
  | [d1, d2, d3] => { results := [.lit (.bool false)], args := [d1, d2, d3] }
  | _ => none }
def TypesOrderWrongFalsely : Prop := typesOrderRow.holds Try.pinned (OpenSpec.ofChange typesOrderWrong)

/-- 'tramwaylaw07.TypesSizes': WHATEVER THE INPUT: true; the input reads as it did. -/
def typesSizesSpec : ChangeSpec := { name := "typesSizes", fn := fun _ => fun
  | [d] => { results := [.lit (.bool true)], args := [d] }
  | _ => none }
def typesSizesRow : OpenClaim := { program := "ytoihcjokifjcgaa", sum := "9e0ea541ec6222af6b2532b44a00855c831c53673ff506ab4d154d94c3389bec", func := "tramway/tramwaylaw07.TypesSizes", spec := "typesSizes", apart := false }
def TypesSizesSaid : Prop := typesSizesRow.holds Try.pinned (OpenSpec.ofChange typesSizesSpec)

/-- ITS FALSE NEIGHBOUR: 'it returns false'. Refute it at one input. -/
def typesSizesWrong : ChangeSpec := { name := "typesSizes", fn := fun _ => fun
  | [d] => { results := [.lit (.bool false)], args := [d] }
  | _ => none }
def TypesSizesWrongFalsely : Prop := typesSizesRow.holds Try.pinned (OpenSpec.ofChange typesSizesWrong)

/- THE SECOND FORM. 'bulk': how many values and letters a reading holds, each counted each time it is reached (what is shared counts as often as it is met; a slice's spare places count too). A statement '..UptoSaid' is the law's where the arguments, and the package variables that the reading takes, are together of bulk at most 1048576: NARROWER than '..Said'. Prove '..Said' where nothing that the law and all that it calls make is longer than what came in: it says more and counts as full. Else prove '..UptoSaid'. A law counts once. -/
mutual
def uptoBulk {H : Type} : DataW H → Nat
  | .lit (.string bytes) => bytes.length + 1
  | .lit _ => 1
  | .nil => 1
  | .ptr d => uptoBulk d + 1
  | .slice elems spare => uptoBulkAll elems + uptoBulkAll spare + 1
  | .agg parts => uptoBulkAll parts + 1
  | .iface _ d => uptoBulk d + 1
  | .map entries => uptoBulkEntries entries + 1
  | .held _ => 1
def uptoBulkAll {H : Type} : List (DataW H) → Nat
  | [] => 0
  | d :: r => uptoBulk d + uptoBulkAll r
def uptoBulkEntries {H : Type} : List (Lit × DataW H) → Nat
  | [] => 0
  | x :: r => uptoBulkEntry x + uptoBulkEntries r
def uptoBulkEntry {H : Type} : Lit × DataW H → Nat
  | (.string bytes, d) => bytes.length + uptoBulk d + 1
  | (_, d) => uptoBulk d + 1
 end
def uptoSmall : (H : Type) → List (DataW H) → Bool := fun _ ds => decide (uptoBulkAll ds ≤ 1048576)
def OpenSpec.upto (s : _root_.Go.ChangeSpec) : _root_.Go.OpenSpec := { _root_.Go.OpenSpec.ofChange s with cond := some uptoSmall }

/-- 'tramwaylaw07.TypesEncodes', WHERE WHAT IT READS IS OF BULK AT MOST 1048576: true; the input reads as it did. -/
def typesEncodesUptoRow : OpenClaim := { program := "ytoihcjokifjcgaa", sum := "9e0ea541ec6222af6b2532b44a00855c831c53673ff506ab4d154d94c3389bec", func := "tramway/tramwaylaw07.TypesEncodes", spec := "typesEncodes", apart := false, narrowed := true }
def TypesEncodesUptoSaid : Prop := typesEncodesUptoRow.holds Try.pinned (OpenSpec.upto typesEncodesSpec)

/-- 'tramwaylaw07.TypesDecodes', WHERE WHAT IT READS IS OF BULK AT MOST 1048576: true; the input reads as it did. -/
def typesDecodesUptoRow : OpenClaim := { program := "ytoihcjokifjcgaa", sum := "9e0ea541ec6222af6b2532b44a00855c831c53673ff506ab4d154d94c3389bec", func := "tramway/tramwaylaw07.TypesDecodes", spec := "typesDecodes", apart := false, narrowed := true }
def TypesDecodesUptoSaid : Prop := typesDecodesUptoRow.holds Try.pinned (OpenSpec.upto typesDecodesSpec)

/-- 'tramwaylaw07.TypesOrder', WHERE WHAT IT READS IS OF BULK AT MOST 1048576: true; the input reads as it did. -/
def typesOrderUptoRow : OpenClaim := { program := "ytoihcjokifjcgaa", sum := "9e0ea541ec6222af6b2532b44a00855c831c53673ff506ab4d154d94c3389bec", func := "tramway/tramwaylaw07.TypesOrder", spec := "typesOrder", apart := false, narrowed := true }
def TypesOrderUptoSaid : Prop := typesOrderUptoRow.holds Try.pinned (OpenSpec.upto typesOrderSpec)

/-- 'tramwaylaw07.TypesSizes', WHERE WHAT IT READS IS OF BULK AT MOST 1048576: true; the input reads as it did. -/
def typesSizesUptoRow : OpenClaim := { program := "ytoihcjokifjcgaa", sum := "9e0ea541ec6222af6b2532b44a00855c831c53673ff506ab4d154d94c3389bec", func := "tramway/tramwaylaw07.TypesSizes", spec := "typesSizes", apart := false, narrowed := true }
def TypesSizesUptoSaid : Prop := typesSizesUptoRow.holds Try.pinned (OpenSpec.upto typesSizesSpec)

end Rows
end Go.Proofs.Ytoihcjokifjcgaa
