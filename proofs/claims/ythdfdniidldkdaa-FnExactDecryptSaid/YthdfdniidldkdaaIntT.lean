/- The helpers of the exact laws at slices of integers: copied, compared. -/
import Derived.Test.YthdfdniidldkdaaIntI
import Derived.Deep.QuietTactic
import Derived.BigQuiet
import Derived.RegionTactic
namespace Go.Proofs.Ythdfdniidldkdaa
open Go.ChangeShapes Go.WideShapes Go.ChangeAt Go.RowKit
set_option linter.unusedVariables false

/-- k elements are copied, the others are 0 still. -/
def fillIntS (l : List Int) (j n : Nat) : List Value := ((l.take j ++ List.replicate (n - j) 0).map (Value.int .i64))
theorem fillIntS_zero (l : List Int) (n : Nat) : fillIntS l 0 n = List.replicate n (.int .i64 0) := by unfold fillIntS; simp
theorem fillIntS_all (l : List Int) : fillIntS l l.length l.length = l.map (Value.int .i64) := by unfold fillIntS; simp
theorem fillIntS_step {l : List Int} {j : Nat} {x : Int} (hj : l[j]? = some x) {n : Nat} (hn : l.length = n) : (fillIntS l j n).set j (.int .i64 x) = fillIntS l (j + 1) n := by
  have hlt : j < l.length := by
    rcases Nat.lt_or_ge j l.length with h | h
    · exact h
    · rw [List.getElem?_eq_none h] at hj; cases hj
  unfold fillIntS
  rw [← List.map_set]
  congr 1
  have hl : (l.take j).length = j := by rw [List.length_take]; omega
  rw [List.set_append_right _ _ (by omega), hl, Nat.sub_self, show n - j = (n - (j + 1)) + 1 by omega, List.replicate_succ, List.set_cons_zero, List.take_add_one, hj]
  simp

end Go.Proofs.Ythdfdniidldkdaa
