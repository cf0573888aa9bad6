/- Whether a list of values is a message of a format: by the model. -/
import Derived.Test.YtnjjfagokbbelaaFitsF
import Derived.Test.YtnjjfagokbbelaaFitsS
namespace Go.Proofs.Ytnjjfagokbbelaa
open Go.ChangeShapes Go.WideShapes Go.ChangeAt Go.RowKit
set_option linter.unusedVariables false
set_option linter.unusedSimpArgs false

end Go.Proofs.Ytnjjfagokbbelaa
