/- The laws' own small helpers: the bound on the input. -/
import Derived.Test.YtiaknjeeonlbcaaDr
namespace Go.Proofs.Ytiaknjeeonlbcaa
open Go.ChangeShapes Go.WideShapes Go.ChangeAt Go.RowKit
set_option linter.unusedVariables false

theorem ret_bool {a b : Bool} (h : a = b) : Ending.returned (.bool a) = .returned (.bool b) := by rw [h]
theorem big_no (a : Option Addr) (n c : Nat) (hn : (n : Int) ≤ 9223372036854775807) (h : ¬ 1048576 < n) (w : World) :
    Calls Try.prog 9 #[.slice a n c] w fun e w' => e = .returned (.bool false) ∧ w = w' := by
  go_enter Try.func9, Try.ntmps9
  go_wp2
  go_ret
  exact ⟨ret_bool (by simp; omega), rfl⟩
theorem big_yes (a : Option Addr) (n c : Nat) (hn : (n : Int) ≤ 9223372036854775807) (h : 1048576 < n) (w : World) :
    Calls Try.prog 9 #[.slice a n c] w fun e w' => e = .returned (.bool true) ∧ w = w' := by
  go_enter Try.func9, Try.ntmps9
  go_wp2
  go_ret
  exact ⟨ret_bool (by simp; omega), rfl⟩
end Go.Proofs.Ytiaknjeeonlbcaa
