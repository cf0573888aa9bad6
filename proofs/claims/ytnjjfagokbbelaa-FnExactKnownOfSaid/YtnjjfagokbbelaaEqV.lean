/- Values are compared: by the program. -/
import Derived.Test.YtnjjfagokbbelaaVal
import Derived.Test.YtnjjfagokbbelaaEqI
namespace Go.Proofs.Ytnjjfagokbbelaa
open Go.ChangeShapes Go.WideShapes Go.ChangeAt Go.RowKit
set_option linter.unusedVariables false

end Go.Proofs.Ytnjjfagokbbelaa
