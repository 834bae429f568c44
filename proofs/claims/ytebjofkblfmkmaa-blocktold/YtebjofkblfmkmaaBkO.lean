/- What the texts of layer 12 stand on. -/
import Derived.Test.YtebjofkblfmkmaaTyE
import Derived.Test.YtebjofkblfmkmaaTyLa
import Derived.Deep.MidRow
import Derived.Deep.RegionHeld3
namespace Go.Proofs.Ytebjofkblfmkmaa
open Go.RowKit Go.Proofs.Ty
set_option linter.unusedVariables false
set_option maxRecDepth 1000000
set_option linter.unusedSimpArgs false
theorem hidOf2 {p : Prop} (h : p) : Hid p := h
end Go.Proofs.Ytebjofkblfmkmaa
