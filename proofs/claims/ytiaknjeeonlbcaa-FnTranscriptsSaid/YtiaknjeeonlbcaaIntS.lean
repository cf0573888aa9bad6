/- The helpers of the exact laws at slices of integers: marked, looked at. -/
import Derived.Test.YtiaknjeeonlbcaaIntT
namespace Go.Proofs.Ytiaknjeeonlbcaa
open Go.ChangeShapes Go.WideShapes Go.ChangeAt Go.RowKit
set_option linter.unusedVariables false

/-- The marks that are laid: each one more than the one before. -/
def marksIntS (j n : Nat) : List Int := (List.range n).map fun i => ((j + i : Nat) : Int)
theorem marksIntS_len (j n : Nat) : (marksIntS j n).length = n := by simp [marksIntS]
theorem marksIntS_get {j n i : Nat} (h : i < n) : (marksIntS j n)[i]? = some (((j + i : Nat) : Int)) := by unfold marksIntS; simp [h]
def partIntS (j0 j n : Nat) (l : List Int) : List Value := ((marksIntS j0 j ++ l.drop j).map (Value.int .i64))
theorem partIntS_zero (j0 n : Nat) (l : List Int) : partIntS j0 0 n l = l.map (Value.int .i64) := by simp [partIntS, marksIntS]
theorem partIntS_all (j0 n : Nat) (l : List Int) (h : l.length = n) : partIntS j0 n n l = (marksIntS j0 n).map (Value.int .i64) := by
  unfold partIntS
  rw [List.drop_eq_nil_of_le (by omega), List.append_nil]
theorem partIntS_step {l : List Int} {i n : Nat} (j : Nat) (hi : i < n) (hn : l.length = n) : (partIntS j i n l).set i (.int .i64 (((j + i : Nat) : Int))) = partIntS j (i + 1) n l := by
  unfold partIntS
  rw [← List.map_set]
  congr 1
  rw [List.set_append_right _ _ (by rw [marksIntS_len]; omega), marksIntS_len, Nat.sub_self, List.drop_eq_getElem_cons (by omega), List.set_cons_zero]
  simp [marksIntS, List.range_succ]

end Go.Proofs.Ytiaknjeeonlbcaa
