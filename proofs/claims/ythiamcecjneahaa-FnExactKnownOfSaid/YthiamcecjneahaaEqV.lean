/- Values are compared: by the program. -/
import Derived.Test.YthiamcecjneahaaVal
import Derived.Test.YthiamcecjneahaaEqI
namespace Go.Proofs.Ythiamcecjneahaa
open Go.ChangeShapes Go.WideShapes Go.ChangeAt Go.RowKit
set_option linter.unusedVariables false

end Go.Proofs.Ythiamcecjneahaa
