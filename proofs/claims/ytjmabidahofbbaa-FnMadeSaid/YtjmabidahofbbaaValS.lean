/- The helpers of the exact laws at lists of values: measured, copied, compared. -/
import Derived.Test.YtjmabidahofbbaaVal
import Derived.Test.YtjmabidahofbbaaFieldT
import Derived.Test.YtjmabidahofbbaaIntT
import Derived.Deep.QuietTactic
import Derived.BigQuiet
import Derived.RegionTactic
import Derived.StillTailTactics
import Derived.Handy
namespace Go.Proofs.Ytjmabidahofbbaa
open Go.ChangeShapes Go.WideShapes Go.ChangeAt Go.RowKit
set_option linter.unusedVariables false

theorem infoValueS : (Try.prog.info? 73).map (fun i => (i.zero, i.size, i.bytes)) = some (some (.agg #[.int .i64 0, .slice none 0 0]), 2, 32) := by kernel_rfl

/-- What is left of a bound. -/
def leftOf (left : Int) (n : Nat) : Int := if (n : Int) ≤ left then left - n else -1
theorem put_step {l : List Vl} {j n : Nat} {x : Vl} (hj : l[j]? = some x) (hn : l.length = n) : (l.take j ++ List.replicate (n - j) (⟨0, []⟩ : Vl)).set j x = l.take (j + 1) ++ List.replicate (n - (j + 1)) (⟨0, []⟩ : Vl) := by
  have hlt : j < l.length := lt_of_some hj
  have hl : (l.take j).length = j := by rw [List.length_take]; omega
  rw [List.set_append_right _ _ (by omega), hl, Nat.sub_self, show n - j = (n - (j + 1)) + 1 by omega, List.replicate_succ, List.set_cons_zero, List.take_add_one, hj]
  simp
end Go.Proofs.Ytjmabidahofbbaa
