/- Whether a field is there: by the model. -/
import Derived.Test.YtjmabidahofbbaaThere
namespace Go.Proofs.Ytjmabidahofbbaa
open Go.ChangeShapes Go.WideShapes Go.ChangeAt Go.RowKit
set_option linter.unusedVariables false

theorem l1R_t {n l h : Int} {x : Bool} (e : decide (l ≤ n ∧ n ≤ h) = x) (w : World) :
    Calls Try.prog 58 #[.int .i64 n, .int .i64 l, .int .i64 h] w fun e w' => e = .returned (.bool x) ∧ w' = w := (l1R_any n l h w).mono fun e' w' ⟨h1, h2⟩ => ⟨by rw [h1, e], h2.symm⟩
end Go.Proofs.Ytjmabidahofbbaa
