/- Lists of values are compared: by the program. -/
import Derived.Test.YthiamcecjneahaaEqV
namespace Go.Proofs.Ythiamcecjneahaa
open Go.ChangeShapes Go.WideShapes Go.ChangeAt Go.RowKit
set_option linter.unusedVariables false

theorem vl_ne {x y : Vl} (h : x ≠ y) : ¬ (x.num = y.num ∧ x.items = y.items) := fun e => h (by
  obtain ⟨a, b⟩ := x
  obtain ⟨c, d⟩ := y
  simp only at e
  rw [e.1, e.2])
end Go.Proofs.Ythiamcecjneahaa
