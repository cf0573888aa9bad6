/- The kinds of fields, and the greatest Max of each; being in a range. -/
import Derived.Test.YtejnghnmmeiioaaItems
import Derived.Handy
import Derived.Deep.QuietTactic
import Derived.BigQuiet
namespace Go.Proofs.Ytejnghnmmeiioaa
open Go.ChangeShapes Go.WideShapes Go.ChangeAt Go.RowKit
set_option linter.unusedVariables false

theorem inR_any (n l h : Int) (w : World) :
    Calls Try.prog 53 #[.int .i64 n, .int .i64 l, .int .i64 h] w fun e w' => e = .returned (.bool (decide (l ≤ n ∧ n ≤ h))) ∧ w = w' := by
  by_cases h1 : l ≤ n <;> by_cases h2 : n ≤ h <;> (go_enter Try.func53, Try.ntmps53; go_wp2; go_ret; exact ⟨by simp [h1, h2], rfl⟩)
theorem l1R_any (n l h : Int) (w : World) :
    Calls Try.prog 35 #[.int .i64 n, .int .i64 l, .int .i64 h] w fun e w' => e = .returned (.bool (decide (l ≤ n ∧ n ≤ h))) ∧ w = w' := by
  by_cases h1 : l ≤ n <;> by_cases h2 : n ≤ h <;> (go_enter Try.func35, Try.ntmps35; go_wp2; go_ret; exact ⟨by simp [h1, h2], rfl⟩)

/-- A kind's name. -/
def nameOf (k : Int) : List UInt8 := if k = 1 then [110, 117, 109] else if k = 2 then [116, 101, 120, 116] else if k = 3 then [108, 105, 115, 116] else []
/-- A kind's greatest Max. -/
def mostOf (k : Int) : Int := if k = 1 then 99 else if k = 2 then 5 else if k = 3 then 5 else 0
end Go.Proofs.Ytejnghnmmeiioaa
