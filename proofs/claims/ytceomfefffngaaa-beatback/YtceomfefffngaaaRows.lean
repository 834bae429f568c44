/-
  No cell of these rows narrows 'for every input' (looked for: loops, veiled, ifaces, maps, wideKeys, modest, calm, conditions, laid).
  DERIVED. THE GIVEN ROWS OF THIS SEAT. 6 by the template 'for every input the law returns true; each argument reads behind the call as it read before'; 0 by the template 'total and deterministic' (their statements: YtceomfefffngaaaTotals.lean).
  GIVEN WITH THE SEED: the statements are not yours to turn. If you find one false, say at which input.
  Laid BY PROGRAM, IN A SANDBOX (cutbox-rows.mjs): the forced cells as the released guide's own fill.sh prints them over the translation 7805ee47832a3879… (all of the seat's roots in one cut). By AI agents, Wed Nov 11 2026. No macro, syntax, notation, axiom, sorry.
-/
import Derived.Test.YtceomfefffngaaaChecked
import GoSem.Claim
import GoSem.ClaimJoined
import GoSem.ClaimMapViews
import Derived.JoinedTies
import Derived.KernelRfl
namespace Go.Proofs.Ytceomfefffngaaa
/- THE CELL 'sum', in the pinned program and in every row, IS THE sha256 OF THE DUMP (.gsa) THAT YtceomfefffngaaaProg.lean LOADS. Nothing in Lean hashes anything: it is a label: what it is worth is what the hold of that sum in a sandbox is worth. -/
noncomputable def Try.pinned : Pinned := { name := "ytceomfefffngaaa", sum := "7805ee47832a3879cfba42070906f612c05aed6a4e5727e0e05ee0bb369f953c", checked := Try.checked }
namespace Rows
def none {H : Type} : Left H := { results := [], args := [] }

/-- 'tramwaylaw18.BeatHearts': WHATEVER THE INPUT: true; the input reads as it did. -/
def beatHeartsSpec : ChangeSpec := { name := "beatHearts", fn := fun _ => fun
  | [d1, d2] => { results := [.lit (.bool true)], args := [d1, d2] }
  | _ => none }
def beatHeartsRow : OpenClaim := { program := "ytceomfefffngaaa", sum := "7805ee47832a3879cfba42070906f612c05aed6a4e5727e0e05ee0bb369f953c", func := "tramway/tramwaylaw18.BeatHearts", spec := "beatHearts", unfollowed := true, recurses := true, apart := false }
def BeatHeartsSaid : Prop := beatHeartsRow.holds Try.pinned (OpenSpec.ofChange beatHeartsSpec)

/-- ITS FALSE NEIGHBOUR: 'it returns false'. Refute it at one input. -/
def beatHeartsWrong : ChangeSpec := { name := "beatHearts", fn := fun _ => fun
  | [d1, d2] => { results := [.lit (.bool false)], args := [d1, d2] }
  | _ => none }
def BeatHeartsWrongFalsely : Prop := beatHeartsRow.holds Try.pinned (OpenSpec.ofChange beatHeartsWrong)

/-- 'tramwaylaw18.BeatWatches': WHATEVER THE INPUT: true; the input reads as it did. -/
def beatWatchesSpec : ChangeSpec := { name := "beatWatches", fn := fun _ => fun
  | [d1, d2] => { results := [.lit (.bool true)], args := [d1, d2] }
  | _ => none }
def beatWatchesRow : OpenClaim := { program := "ytceomfefffngaaa", sum := "7805ee47832a3879cfba42070906f612c05aed6a4e5727e0e05ee0bb369f953c", func := "tramway/tramwaylaw18.BeatWatches", spec := "beatWatches", unfollowed := true, recurses := true, apart := false }
def BeatWatchesSaid : Prop := beatWatchesRow.holds Try.pinned (OpenSpec.ofChange beatWatchesSpec)

/-- ITS FALSE NEIGHBOUR: 'it returns false'. Refute it at one input. -/
def beatWatchesWrong : ChangeSpec := { name := "beatWatches", fn := fun _ => fun
  | [d1, d2] => { results := [.lit (.bool false)], args := [d1, d2] }
  | _ => none }
def BeatWatchesWrongFalsely : Prop := beatWatchesRow.holds Try.pinned (OpenSpec.ofChange beatWatchesWrong)

/-- 'tramwaylaw18.BeatInTime': WHATEVER THE INPUT: true; the input reads as it did. -/
def beatInTimeSpec : ChangeSpec := { name := "beatInTime", fn := fun _ => fun
  | [d1, d2] => { results := [.lit (.bool true)], args := [d1, d2] }
  | _ => none }
def beatInTimeRow : OpenClaim := { program := "ytceomfefffngaaa", sum := "7805ee47832a3879cfba42070906f612c05aed6a4e5727e0e05ee0bb369f953c", func := "tramway/tramwaylaw18.BeatInTime", spec := "beatInTime", unfollowed := true, recurses := true, apart := false }
def BeatInTimeSaid : Prop := beatInTimeRow.holds Try.pinned (OpenSpec.ofChange beatInTimeSpec)

/-- ITS FALSE NEIGHBOUR: 'it returns false'. Refute it at one input. -/
def beatInTimeWrong : ChangeSpec := { name := "beatInTime", fn := fun _ => fun
  | [d1, d2] => { results := [.lit (.bool false)], args := [d1, d2] }
  | _ => none }
def BeatInTimeWrongFalsely : Prop := beatInTimeRow.holds Try.pinned (OpenSpec.ofChange beatInTimeWrong)

/-- 'tramwaylaw18.BeatApart': WHATEVER THE INPUT: true; the input reads as it did. -/
def beatApartSpec : ChangeSpec := { name := "beatApart", fn := fun _ => fun
  | [d1, d2, d3] => { results := [.lit (.bool true)], args := [d1, d2, d3] }
  | _ => none }
def beatApartRow : OpenClaim := { program := "ytceomfefffngaaa", sum := "7805ee47832a3879cfba42070906f612c05aed6a4e5727e0e05ee0bb369f953c", func := "tramway/tramwaylaw18.BeatApart", spec := "beatApart", unfollowed := true, recurses := true, apart := false }
def BeatApartSaid : Prop := beatApartRow.holds Try.pinned (OpenSpec.ofChange beatApartSpec)

/-- ITS FALSE NEIGHBOUR: 'it returns false'. Refute it at one input. -/
def beatApartWrong : ChangeSpec := { name := "beatApart", fn := fun _ => fun
  | [d1, d2, d3] => { results := [.lit (.bool false)], args := [d1, d2, d3] }
  | _ => none }
def BeatApartWrongFalsely : Prop := beatApartRow.holds Try.pinned (OpenSpec.ofChange beatApartWrong)

/-- 'tramwaylaw18.BeatBack': WHATEVER THE INPUT: true; the input reads as it did. -/
def beatBackSpec : ChangeSpec := { name := "beatBack", fn := fun _ => fun
  | [d1, d2, d3] => { results := [.lit (.bool true)], args := [d1, d2, d3] }
  | _ => none }
def beatBackRow : OpenClaim := { program := "ytceomfefffngaaa", sum := "7805ee47832a3879cfba42070906f612c05aed6a4e5727e0e05ee0bb369f953c", func := "tramway/tramwaylaw18.BeatBack", spec := "beatBack", unfollowed := true, recurses := true, apart := false }
def BeatBackSaid : Prop := beatBackRow.holds Try.pinned (OpenSpec.ofChange beatBackSpec)

/-- ITS FALSE NEIGHBOUR: 'it returns false'. Refute it at one input. -/
def beatBackWrong : ChangeSpec := { name := "beatBack", fn := fun _ => fun
  | [d1, d2, d3] => { results := [.lit (.bool false)], args := [d1, d2, d3] }
  | _ => none }
def BeatBackWrongFalsely : Prop := beatBackRow.holds Try.pinned (OpenSpec.ofChange beatBackWrong)

/-- 'tramwaytop.TopBeats': WHATEVER THE INPUT: true; the input reads as it did. -/
def topBeatsSpec : ChangeSpec := { name := "topBeats", fn := fun _ => fun
  | [d1, d2] => { results := [.lit (.bool true)], args := [d1, d2] }
  | _ => none }
def topBeatsRow : OpenClaim := { program := "ytceomfefffngaaa", sum := "7805ee47832a3879cfba42070906f612c05aed6a4e5727e0e05ee0bb369f953c", func := "tramway/tramwaytop.TopBeats", spec := "topBeats", unfollowed := true, recurses := true, apart := false }
def TopBeatsSaid : Prop := topBeatsRow.holds Try.pinned (OpenSpec.ofChange topBeatsSpec)

/-- ITS FALSE NEIGHBOUR: 'it returns false'. Refute it at one input. -/
def topBeatsWrong : ChangeSpec := { name := "topBeats", fn := fun _ => fun
  | [d1, d2] => { results := [.lit (.bool false)], args := [d1, d2] }
  | _ => none }
def TopBeatsWrongFalsely : Prop := topBeatsRow.holds Try.pinned (OpenSpec.ofChange topBeatsWrong)

/- THE SECOND FORM. 'bulk': how many values and letters a reading holds, each counted each time it is reached (what is shared counts as often as it is met; a slice's spare places count too). A statement '..UptoSaid' is the law's where the arguments, and the package variables that the reading takes, are together of bulk at most 1048576: NARROWER than '..Said'. Prove '..Said' where nothing that the law and all that it calls make is longer than what came in: it says more and counts as full. Else prove '..UptoSaid'. A law counts once. -/
mutual
def uptoBulk {H : Type} : DataW H → Nat
  | .lit (.string bytes) => bytes.length + 1
  | .lit _ => 1
  | .nil => 1
  | .ptr d => uptoBulk d + 1
  | .slice elems spare => uptoBulkAll elems + uptoBulkAll spare + 1
  | .agg parts => uptoBulkAll parts + 1
  | .iface _ d => uptoBulk d + 1
  | .map entries => uptoBulkEntries entries + 1
  | .held _ => 1
def uptoBulkAll {H : Type} : List (DataW H) → Nat
  | [] => 0
  | d :: r => uptoBulk d + uptoBulkAll r
def uptoBulkEntries {H : Type} : List (Lit × DataW H) → Nat
  | [] => 0
  | x :: r => uptoBulkEntry x + uptoBulkEntries r
def uptoBulkEntry {H : Type} : Lit × DataW H → Nat
  | (.string bytes, d) => bytes.length + uptoBulk d + 1
  | (_, d) => uptoBulk d + 1
 end
def uptoSmall : (H : Type) → List (DataW H) → Bool := fun _ ds => decide (uptoBulkAll ds ≤ 1048576)
def OpenSpec.upto (s : _root_.Go.ChangeSpec) : _root_.Go.OpenSpec := { _root_.Go.OpenSpec.ofChange s with cond := some uptoSmall }

/-- 'tramwaylaw18.BeatHearts', WHERE WHAT IT READS IS OF BULK AT MOST 1048576: true; the input reads as it did. -/
def beatHeartsUptoRow : OpenClaim := { program := "ytceomfefffngaaa", sum := "7805ee47832a3879cfba42070906f612c05aed6a4e5727e0e05ee0bb369f953c", func := "tramway/tramwaylaw18.BeatHearts", spec := "beatHearts", unfollowed := true, recurses := true, apart := false, narrowed := true }
def BeatHeartsUptoSaid : Prop := beatHeartsUptoRow.holds Try.pinned (OpenSpec.upto beatHeartsSpec)

/-- 'tramwaylaw18.BeatWatches', WHERE WHAT IT READS IS OF BULK AT MOST 1048576: true; the input reads as it did. -/
def beatWatchesUptoRow : OpenClaim := { program := "ytceomfefffngaaa", sum := "7805ee47832a3879cfba42070906f612c05aed6a4e5727e0e05ee0bb369f953c", func := "tramway/tramwaylaw18.BeatWatches", spec := "beatWatches", unfollowed := true, recurses := true, apart := false, narrowed := true }
def BeatWatchesUptoSaid : Prop := beatWatchesUptoRow.holds Try.pinned (OpenSpec.upto beatWatchesSpec)

/-- 'tramwaylaw18.BeatInTime', WHERE WHAT IT READS IS OF BULK AT MOST 1048576: true; the input reads as it did. -/
def beatInTimeUptoRow : OpenClaim := { program := "ytceomfefffngaaa", sum := "7805ee47832a3879cfba42070906f612c05aed6a4e5727e0e05ee0bb369f953c", func := "tramway/tramwaylaw18.BeatInTime", spec := "beatInTime", unfollowed := true, recurses := true, apart := false, narrowed := true }
def BeatInTimeUptoSaid : Prop := beatInTimeUptoRow.holds Try.pinned (OpenSpec.upto beatInTimeSpec)

/-- 'tramwaylaw18.BeatApart', WHERE WHAT IT READS IS OF BULK AT MOST 1048576: true; the input reads as it did. -/
def beatApartUptoRow : OpenClaim := { program := "ytceomfefffngaaa", sum := "7805ee47832a3879cfba42070906f612c05aed6a4e5727e0e05ee0bb369f953c", func := "tramway/tramwaylaw18.BeatApart", spec := "beatApart", unfollowed := true, recurses := true, apart := false, narrowed := true }
def BeatApartUptoSaid : Prop := beatApartUptoRow.holds Try.pinned (OpenSpec.upto beatApartSpec)

/-- 'tramwaylaw18.BeatBack', WHERE WHAT IT READS IS OF BULK AT MOST 1048576: true; the input reads as it did. -/
def beatBackUptoRow : OpenClaim := { program := "ytceomfefffngaaa", sum := "7805ee47832a3879cfba42070906f612c05aed6a4e5727e0e05ee0bb369f953c", func := "tramway/tramwaylaw18.BeatBack", spec := "beatBack", unfollowed := true, recurses := true, apart := false, narrowed := true }
def BeatBackUptoSaid : Prop := beatBackUptoRow.holds Try.pinned (OpenSpec.upto beatBackSpec)

/-- 'tramwaytop.TopBeats', WHERE WHAT IT READS IS OF BULK AT MOST 1048576: true; the input reads as it did. -/
def topBeatsUptoRow : OpenClaim := { program := "ytceomfefffngaaa", sum := "7805ee47832a3879cfba42070906f612c05aed6a4e5727e0e05ee0bb369f953c", func := "tramway/tramwaytop.TopBeats", spec := "topBeats", unfollowed := true, recurses := true, apart := false, narrowed := true }
def TopBeatsUptoSaid : Prop := topBeatsUptoRow.holds Try.pinned (OpenSpec.upto topBeatsSpec)

end Rows
end Go.Proofs.Ytceomfefffngaaa
