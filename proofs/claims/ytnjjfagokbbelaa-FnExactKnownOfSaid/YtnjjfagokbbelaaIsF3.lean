/- Being a format, by the model. -/
import Derived.Test.YtnjjfagokbbelaaIsF2
namespace Go.Proofs.Ytnjjfagokbbelaa
open Go.ChangeShapes Go.WideShapes Go.ChangeAt Go.RowKit
set_option linter.unusedVariables false

theorem l1R_q (n l h : Int) (w : World) :
    Calls Try.prog 98 #[.int .i64 n, .int .i64 l, .int .i64 h] w fun e w' => e = .returned (.bool (decide (l ≤ n ∧ n ≤ h))) ∧ w' = w := (l1R_any n l h w).mono fun e w' ⟨h1, h2⟩ => ⟨h1, h2.symm⟩

end Go.Proofs.Ytnjjfagokbbelaa
