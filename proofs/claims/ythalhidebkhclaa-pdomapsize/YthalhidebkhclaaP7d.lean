/- Contracts: List; entries held against each other; two dictionaries of the same entries. -/
import Derived.Test.YthalhidebkhclaaP7c
import Derived.Test.YthalhidebkhclaaP7b
namespace Go.Proofs.Ythalhidebkhclaa
open Go.RowKit Go.Proofs.Ty Go.Sort Go.Lib
set_option linter.unusedVariables false
set_option maxRecDepth 1000000
set_option linter.unusedSimpArgs false
end Go.Proofs.Ythalhidebkhclaa
