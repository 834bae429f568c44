/-
  No cell of these rows narrows 'for every input' (looked for: loops, veiled, ifaces, maps, wideKeys, modest, calm, conditions, laid).
  DERIVED. THE GIVEN ROWS OF THIS SEAT. 6 by the template 'for every input the law returns true; each argument reads behind the call as it read before'; 0 by the template 'total and deterministic' (their statements: YtahfnknbmikmkaaGreatTotals.lean).
  GIVEN WITH THE SEED: the statements are not yours to turn. If you find one false, say at which input.
  Laid BY PROGRAM, IN A SANDBOX (cutbox-rows.mjs): the forced cells as the released guide's own fill.sh prints them over the translation bcd3340228875a33… (all of the seat's roots in one cut). By AI agents, Wed Nov 11 2026. No macro, syntax, notation, axiom, sorry.
-/
import Derived.Test.YtahfnknbmikmkaaGreatChecked
import GoSem.Claim
import GoSem.ClaimJoined
import GoSem.ClaimMapViews
import Derived.JoinedTies
import Derived.KernelRfl
namespace Go.Proofs.YtahfnknbmikmkaaGreat
/- THE CELL 'sum', in the pinned program and in every row, IS THE sha256 OF THE DUMP (.gsa) THAT YtahfnknbmikmkaaGreatProg.lean LOADS. Nothing in Lean hashes anything: it is a label: what it is worth is what the hold of that sum in a sandbox is worth. -/
noncomputable def Tryz.pinned : Pinned := { name := "ytahfnknbmikmkaagreat", sum := "bcd3340228875a33b679afc6106b028e6f7b758e9a8dc0cb62fb8b4e8e6a7be3", checked := Tryz.checked }
namespace Rows
def none {H : Type} : Left H := { results := [], args := [] }

/-- 'tramwaylaw10.SdoAnswers': WHATEVER THE INPUT: true; the input reads as it did. -/
def sdoAnswersSpec : ChangeSpec := { name := "sdoAnswers", fn := fun _ => fun
  | [d1, d2] => { results := [.lit (.bool true)], args := [d1, d2] }
  | _ => none }
def sdoAnswersRow : OpenClaim := { program := "ytahfnknbmikmkaagreat", sum := "bcd3340228875a33b679afc6106b028e6f7b758e9a8dc0cb62fb8b4e8e6a7be3", func := "tramway/tramwaylaw10.SdoAnswers", spec := "sdoAnswers", unfollowed := true, recurses := true, apart := false }
def SdoAnswersSaid : Prop := sdoAnswersRow.holds Tryz.pinned (OpenSpec.ofChange sdoAnswersSpec)

/-- ITS FALSE NEIGHBOUR: 'it returns false'. Refute it at one input. -/
def sdoAnswersWrong : ChangeSpec := { name := "sdoAnswers", fn := fun _ => fun
  | [d1, d2] => { results := [.lit (.bool false)], args := [d1, d2] }
  | _ => none }
def SdoAnswersWrongFalsely : Prop := sdoAnswersRow.holds Tryz.pinned (OpenSpec.ofChange sdoAnswersWrong)

/-- 'tramwaylaw10.SdoReads': WHATEVER THE INPUT: true; the input reads as it did. -/
def sdoReadsSpec : ChangeSpec := { name := "sdoReads", fn := fun _ => fun
  | [d1, d2, d3] => { results := [.lit (.bool true)], args := [d1, d2, d3] }
  | _ => none }
def sdoReadsRow : OpenClaim := { program := "ytahfnknbmikmkaagreat", sum := "bcd3340228875a33b679afc6106b028e6f7b758e9a8dc0cb62fb8b4e8e6a7be3", func := "tramway/tramwaylaw10.SdoReads", spec := "sdoReads", unfollowed := true, recurses := true, apart := false }
def SdoReadsSaid : Prop := sdoReadsRow.holds Tryz.pinned (OpenSpec.ofChange sdoReadsSpec)

/-- ITS FALSE NEIGHBOUR: 'it returns false'. Refute it at one input. -/
def sdoReadsWrong : ChangeSpec := { name := "sdoReads", fn := fun _ => fun
  | [d1, d2, d3] => { results := [.lit (.bool false)], args := [d1, d2, d3] }
  | _ => none }
def SdoReadsWrongFalsely : Prop := sdoReadsRow.holds Tryz.pinned (OpenSpec.ofChange sdoReadsWrong)

/-- 'tramwaylaw10.SdoWrites': WHATEVER THE INPUT: true; the input reads as it did. -/
def sdoWritesSpec : ChangeSpec := { name := "sdoWrites", fn := fun _ => fun
  | [d1, d2] => { results := [.lit (.bool true)], args := [d1, d2] }
  | _ => none }
def sdoWritesRow : OpenClaim := { program := "ytahfnknbmikmkaagreat", sum := "bcd3340228875a33b679afc6106b028e6f7b758e9a8dc0cb62fb8b4e8e6a7be3", func := "tramway/tramwaylaw10.SdoWrites", spec := "sdoWrites", unfollowed := true, recurses := true, apart := false }
def SdoWritesSaid : Prop := sdoWritesRow.holds Tryz.pinned (OpenSpec.ofChange sdoWritesSpec)

/-- ITS FALSE NEIGHBOUR: 'it returns false'. Refute it at one input. -/
def sdoWritesWrong : ChangeSpec := { name := "sdoWrites", fn := fun _ => fun
  | [d1, d2] => { results := [.lit (.bool false)], args := [d1, d2] }
  | _ => none }
def SdoWritesWrongFalsely : Prop := sdoWritesRow.holds Tryz.pinned (OpenSpec.ofChange sdoWritesWrong)

/-- 'tramwaylaw10.SdoQuiet': WHATEVER THE INPUT: true; the input reads as it did. -/
def sdoQuietSpec : ChangeSpec := { name := "sdoQuiet", fn := fun _ => fun
  | [d1, d2] => { results := [.lit (.bool true)], args := [d1, d2] }
  | _ => none }
def sdoQuietRow : OpenClaim := { program := "ytahfnknbmikmkaagreat", sum := "bcd3340228875a33b679afc6106b028e6f7b758e9a8dc0cb62fb8b4e8e6a7be3", func := "tramway/tramwaylaw10.SdoQuiet", spec := "sdoQuiet", unfollowed := true, recurses := true, apart := false }
def SdoQuietSaid : Prop := sdoQuietRow.holds Tryz.pinned (OpenSpec.ofChange sdoQuietSpec)

/-- ITS FALSE NEIGHBOUR: 'it returns false'. Refute it at one input. -/
def sdoQuietWrong : ChangeSpec := { name := "sdoQuiet", fn := fun _ => fun
  | [d1, d2] => { results := [.lit (.bool false)], args := [d1, d2] }
  | _ => none }
def SdoQuietWrongFalsely : Prop := sdoQuietRow.holds Tryz.pinned (OpenSpec.ofChange sdoQuietWrong)

/-- 'tramwaylaw10.SdoToggle': WHATEVER THE INPUT: true; the input reads as it did. -/
def sdoToggleSpec : ChangeSpec := { name := "sdoToggle", fn := fun _ => fun
  | [d1, d2, d3] => { results := [.lit (.bool true)], args := [d1, d2, d3] }
  | _ => none }
def sdoToggleRow : OpenClaim := { program := "ytahfnknbmikmkaagreat", sum := "bcd3340228875a33b679afc6106b028e6f7b758e9a8dc0cb62fb8b4e8e6a7be3", func := "tramway/tramwaylaw10.SdoToggle", spec := "sdoToggle", unfollowed := true, recurses := true, apart := false }
def SdoToggleSaid : Prop := sdoToggleRow.holds Tryz.pinned (OpenSpec.ofChange sdoToggleSpec)

/-- ITS FALSE NEIGHBOUR: 'it returns false'. Refute it at one input. -/
def sdoToggleWrong : ChangeSpec := { name := "sdoToggle", fn := fun _ => fun
  | [d1, d2, d3] => { results := [.lit (.bool false)], args := [d1, d2, d3] }
  | _ => none }
def SdoToggleWrongFalsely : Prop := sdoToggleRow.holds Tryz.pinned (OpenSpec.ofChange sdoToggleWrong)

/-- 'tramwaylaw11.ClientTalks': WHATEVER THE INPUT: true; the input reads as it did. -/
def clientTalksSpec : ChangeSpec := { name := "clientTalks", fn := fun _ => fun
  | [d1, d2, d3] => { results := [.lit (.bool true)], args := [d1, d2, d3] }
  | _ => none }
def clientTalksRow : OpenClaim := { program := "ytahfnknbmikmkaagreat", sum := "bcd3340228875a33b679afc6106b028e6f7b758e9a8dc0cb62fb8b4e8e6a7be3", func := "tramway/tramwaylaw11.ClientTalks", spec := "clientTalks", unfollowed := true, recurses := true, apart := false }
def ClientTalksSaid : Prop := clientTalksRow.holds Tryz.pinned (OpenSpec.ofChange clientTalksSpec)

/-- ITS FALSE NEIGHBOUR: 'it returns false'. Refute it at one input. -/
def clientTalksWrong : ChangeSpec := { name := "clientTalks", fn := fun _ => fun
  | [d1, d2, d3] => { results := [.lit (.bool false)], args := [d1, d2, d3] }
  | _ => none }
def ClientTalksWrongFalsely : Prop := clientTalksRow.holds Tryz.pinned (OpenSpec.ofChange clientTalksWrong)

/- THE SECOND FORM. 'bulk': how many values and letters a reading holds, each counted each time it is reached (what is shared counts as often as it is met; a slice's spare places count too). A statement '..UptoSaid' is the law's where the arguments, and the package variables that the reading takes, are together of bulk at most 1048576: NARROWER than '..Said'. Prove '..Said' where nothing that the law and all that it calls make is longer than what came in: it says more and counts as full. Else prove '..UptoSaid'. A law counts once. -/
mutual
def uptoBulk {H : Type} : DataW H → Nat
  | .lit (.string bytes) => bytes.length + 1
  | .lit _ => 1
  | .nil => 1
  | .ptr d => uptoBulk d + 1
  | .slice elems spare => uptoBulkAll elems + uptoBulkAll spare + 1
  | .agg parts => uptoBulkAll parts + 1
  | .iface _ d => uptoBulk d + 1
  | .map entries => uptoBulkEntries entries + 1
  | .held _ => 1
def uptoBulkAll {H : Type} : List (DataW H) → Nat
  | [] => 0
  | d :: r => uptoBulk d + uptoBulkAll r
def uptoBulkEntries {H : Type} : List (Lit × DataW H) → Nat
  | [] => 0
  | x :: r => uptoBulkEntry x + uptoBulkEntries r
def uptoBulkEntry {H : Type} : Lit × DataW H → Nat
  | (.string bytes, d) => bytes.length + uptoBulk d + 1
  | (_, d) => uptoBulk d + 1
 end
def uptoSmall : (H : Type) → List (DataW H) → Bool := fun _ ds => decide (uptoBulkAll ds ≤ 1048576)
def OpenSpec.upto (s : _root_.Go.ChangeSpec) : _root_.Go.OpenSpec := { _root_.Go.OpenSpec.ofChange s with cond := some uptoSmall }

/-- 'tramwaylaw10.SdoAnswers', WHERE WHAT IT READS IS OF BULK AT MOST 1048576: true; the input reads as it did. -/
def sdoAnswersUptoRow : OpenClaim := { program := "ytahfnknbmikmkaagreat", sum := "bcd3340228875a33b679afc6106b028e6f7b758e9a8dc0cb62fb8b4e8e6a7be3", func := "tramway/tramwaylaw10.SdoAnswers", spec := "sdoAnswers", unfollowed := true, recurses := true, apart := false, narrowed := true }
def SdoAnswersUptoSaid : Prop := sdoAnswersUptoRow.holds Tryz.pinned (OpenSpec.upto sdoAnswersSpec)

/-- 'tramwaylaw10.SdoReads', WHERE WHAT IT READS IS OF BULK AT MOST 1048576: true; the input reads as it did. -/
def sdoReadsUptoRow : OpenClaim := { program := "ytahfnknbmikmkaagreat", sum := "bcd3340228875a33b679afc6106b028e6f7b758e9a8dc0cb62fb8b4e8e6a7be3", func := "tramway/tramwaylaw10.SdoReads", spec := "sdoReads", unfollowed := true, recurses := true, apart := false, narrowed := true }
def SdoReadsUptoSaid : Prop := sdoReadsUptoRow.holds Tryz.pinned (OpenSpec.upto sdoReadsSpec)

/-- 'tramwaylaw10.SdoWrites', WHERE WHAT IT READS IS OF BULK AT MOST 1048576: true; the input reads as it did. -/
def sdoWritesUptoRow : OpenClaim := { program := "ytahfnknbmikmkaagreat", sum := "bcd3340228875a33b679afc6106b028e6f7b758e9a8dc0cb62fb8b4e8e6a7be3", func := "tramway/tramwaylaw10.SdoWrites", spec := "sdoWrites", unfollowed := true, recurses := true, apart := false, narrowed := true }
def SdoWritesUptoSaid : Prop := sdoWritesUptoRow.holds Tryz.pinned (OpenSpec.upto sdoWritesSpec)

/-- 'tramwaylaw10.SdoQuiet', WHERE WHAT IT READS IS OF BULK AT MOST 1048576: true; the input reads as it did. -/
def sdoQuietUptoRow : OpenClaim := { program := "ytahfnknbmikmkaagreat", sum := "bcd3340228875a33b679afc6106b028e6f7b758e9a8dc0cb62fb8b4e8e6a7be3", func := "tramway/tramwaylaw10.SdoQuiet", spec := "sdoQuiet", unfollowed := true, recurses := true, apart := false, narrowed := true }
def SdoQuietUptoSaid : Prop := sdoQuietUptoRow.holds Tryz.pinned (OpenSpec.upto sdoQuietSpec)

/-- 'tramwaylaw10.SdoToggle', WHERE WHAT IT READS IS OF BULK AT MOST 1048576: true; the input reads as it did. -/
def sdoToggleUptoRow : OpenClaim := { program := "ytahfnknbmikmkaagreat", sum := "bcd3340228875a33b679afc6106b028e6f7b758e9a8dc0cb62fb8b4e8e6a7be3", func := "tramway/tramwaylaw10.SdoToggle", spec := "sdoToggle", unfollowed := true, recurses := true, apart := false, narrowed := true }
def SdoToggleUptoSaid : Prop := sdoToggleUptoRow.holds Tryz.pinned (OpenSpec.upto sdoToggleSpec)

/-- 'tramwaylaw11.ClientTalks', WHERE WHAT IT READS IS OF BULK AT MOST 1048576: true; the input reads as it did. -/
def clientTalksUptoRow : OpenClaim := { program := "ytahfnknbmikmkaagreat", sum := "bcd3340228875a33b679afc6106b028e6f7b758e9a8dc0cb62fb8b4e8e6a7be3", func := "tramway/tramwaylaw11.ClientTalks", spec := "clientTalks", unfollowed := true, recurses := true, apart := false, narrowed := true }
def ClientTalksUptoSaid : Prop := clientTalksUptoRow.holds Tryz.pinned (OpenSpec.upto clientTalksSpec)

end Rows
end Go.Proofs.YtahfnknbmikmkaaGreat
