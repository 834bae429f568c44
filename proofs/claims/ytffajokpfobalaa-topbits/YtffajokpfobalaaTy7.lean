/- Contracts: Decode. -/
import Derived.Test.YtffajokpfobalaaTyD
namespace Go.Proofs.Ytffajokpfobalaa.Tv
open Go.RowKit Go.Proofs.Ty
set_option linter.unusedVariables false
set_option maxRecDepth 1000000
end Go.Proofs.Ytffajokpfobalaa.Tv
