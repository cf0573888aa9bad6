/- Whether a value fits a field: by the model. -/
import Derived.Test.YtjmabidahofbbaaFits
import Derived.Test.YtjmabidahofbbaaThereM
namespace Go.Proofs.Ytjmabidahofbbaa
open Go.ChangeShapes Go.WideShapes Go.ChangeAt Go.RowKit
set_option linter.unusedVariables false

theorem fits_items {x : Fd} {k : Int} {y : List Int} {g : Int} (h : (x.kind = 2 ∧ g = 255) ∨ (x.kind = 3 ∧ g = 99)) : fitsField x k y = (decide (k = 0) && (decide ((y.length : Int) ≤ x.max) && allIn y g)) := by
  unfold fitsField fitIts
  rcases h with ⟨h, rfl⟩ | ⟨h, rfl⟩
  · rw [if_neg (by omega), if_pos h]
  · rw [if_neg (by omega), if_neg (by omega), if_pos h]
end Go.Proofs.Ytjmabidahofbbaa
