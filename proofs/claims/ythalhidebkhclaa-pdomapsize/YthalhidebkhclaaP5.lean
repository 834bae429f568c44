/- Contracts: Set. -/
import Derived.Test.YthalhidebkhclaaO12
namespace Go.Proofs.Ythalhidebkhclaa
open Go.RowKit Go.Proofs.Ty Go.Sort Go.Lib
set_option linter.unusedVariables false
set_option maxRecDepth 1000000
set_option linter.unusedSimpArgs false
/-- What Set tells, and leaves. -/
def setc (its : List Im) (ix sb : Nat) (v : Vl) : Nat := match fnd its ix sb with
  | none => 4
  | some i => if i.e.ac = 3 then 1 else if v.t ≠ i.e.df.t then 1 else v.chk
def sett (its : List Im) (ix sb : Nat) (v : Vl) : List Im := match fnd its ix sb with
  | none => its
  | some i => if setc its ix sb v = 0 then setV its i.b v.plain else its
end Go.Proofs.Ythalhidebkhclaa
