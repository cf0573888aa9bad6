/- Lists of values are compared: by the model. -/
import Derived.Test.YthiamcecjneahaaEqVF
import Derived.Test.YthiamcecjneahaaEqIM
import Derived.Deep.RegionHeld3
namespace Go.Proofs.Ythiamcecjneahaa
open Go.ChangeShapes Go.WideShapes Go.ChangeAt Go.RowKit
set_option linter.unusedVariables false
set_option linter.unusedSimpArgs false

end Go.Proofs.Ythiamcecjneahaa
