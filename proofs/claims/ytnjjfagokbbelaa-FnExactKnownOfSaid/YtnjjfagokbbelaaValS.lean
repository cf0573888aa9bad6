/- The helpers of the exact laws at lists of values: measured, copied, compared. -/
import Derived.Test.YtnjjfagokbbelaaVal
import Derived.Test.YtnjjfagokbbelaaFieldT
import Derived.Test.YtnjjfagokbbelaaIntT
import Derived.Deep.QuietTactic
import Derived.BigQuiet
import Derived.RegionTactic
import Derived.StillTailTactics
import Derived.Handy
namespace Go.Proofs.Ytnjjfagokbbelaa
open Go.ChangeShapes Go.WideShapes Go.ChangeAt Go.RowKit
set_option linter.unusedVariables false

theorem infoValueS : (Try.prog.info? 60).map (fun i => (i.zero, i.size, i.bytes)) = some (some (.agg #[.int .i64 0, .slice none 0 0]), 2, 32) := by kernel_rfl

/-- What is left of a bound. -/
def leftOf (left : Int) (n : Nat) : Int := if (n : Int) ≤ left then left - n else -1
set_option maxRecDepth 100000 in
theorem szIntS_any (a : Option Addr) (n c : Nat) (left : Int) (w : World) (hn : (n : Int) ≤ 9223372036854775807) (h0 : 0 ≤ left) (hl : left ≤ 1048576) :
    Calls Try.prog 94 #[.slice a n c, .int .i64 left] w fun e w' => e = .returned (.int .i64 (leftOf left n)) ∧ w = w' := by
  by_cases h : (n : Int) ≤ left
  · have e : leftOf left n = left - n := if_pos h
    rw [e]
    go_enter Try.func94, Try.ntmps94
    go_wp2
    go_ret
    exact ⟨rfl, rfl⟩
  · have e : leftOf left n = -1 := if_neg h
    rw [e]
    go_enter Try.func94, Try.ntmps94
    go_wp2
    go_ret
    exact ⟨rfl, rfl⟩
theorem put_step {l : List Vl} {j n : Nat} {x : Vl} (hj : l[j]? = some x) (hn : l.length = n) : (l.take j ++ List.replicate (n - j) (⟨0, []⟩ : Vl)).set j x = l.take (j + 1) ++ List.replicate (n - (j + 1)) (⟨0, []⟩ : Vl) := by
  have hlt : j < l.length := lt_of_some hj
  have hl : (l.take j).length = j := by rw [List.length_take]; omega
  rw [List.set_append_right _ _ (by omega), hl, Nat.sub_self, show n - j = (n - (j + 1)) + 1 by omega, List.replicate_succ, List.set_cons_zero, List.take_add_one, hj]
  simp
end Go.Proofs.Ytnjjfagokbbelaa
