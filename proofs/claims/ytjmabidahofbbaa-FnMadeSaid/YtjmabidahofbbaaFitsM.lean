/- Whether a list of values is a message of a format: by the model. -/
import Derived.Test.YtjmabidahofbbaaFitsF
import Derived.Test.YtjmabidahofbbaaFitsS
namespace Go.Proofs.Ytjmabidahofbbaa
open Go.ChangeShapes Go.WideShapes Go.ChangeAt Go.RowKit
set_option linter.unusedVariables false
set_option linter.unusedSimpArgs false

end Go.Proofs.Ytjmabidahofbbaa
