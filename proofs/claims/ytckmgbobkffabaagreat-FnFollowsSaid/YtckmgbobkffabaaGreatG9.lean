/- The helpers of the exact laws at slices of integers: what the program says of integers. The helpers of the exact laws at slices of bools: copied, compared, marked, looked at. -/
import Derived.Test.YtckmgbobkffabaaGreatG1
import Derived.Deep.QuietTactic
import Derived.BigQuiet
import Derived.RegionTactic
import Derived.Test.YtckmgbobkffabaaGreatG5
import Derived.StillTailTactics
import Derived.Handy
namespace Go.Proofs.YtckmgbobkffabaaGreat
open Go.ChangeShapes Go.WideShapes Go.ChangeAt Go.RowKit
set_option linter.unusedVariables false

theorem infoIntS : (Tryz.prog.info? 3).map (fun i => (i.zero, i.size, i.bytes)) = some (some (.int .i64 0), 1, 8) := by kernel_rfl

end Go.Proofs.YtckmgbobkffabaaGreat
namespace Go.Proofs.YtckmgbobkffabaaGreat
open Go.ChangeShapes Go.WideShapes Go.ChangeAt Go.RowKit
set_option linter.unusedVariables false

theorem infoBoolS : (Tryz.prog.info? 4).map (fun i => (i.zero, i.size, i.bytes)) = some (some (.bool false), 1, 1) := by kernel_rfl

/-- j elements are copied, the others are false still. -/
def fillB (l : List Bool) (j n : Nat) : List Value := ((l.take j ++ List.replicate (n - j) false).map Value.bool)
theorem fillB_zero (l : List Bool) (n : Nat) : fillB l 0 n = List.replicate n (.bool false) := by unfold fillB; simp
theorem fillB_all (l : List Bool) : fillB l l.length l.length = l.map Value.bool := by unfold fillB; simp
theorem fillB_step {l : List Bool} {j : Nat} {x : Bool} (hj : l[j]? = some x) {n : Nat} (hn : l.length = n) : (fillB l j n).set j (.bool x) = fillB l (j + 1) n := by
 have hlt : j < l.length := by
  rcases Nat.lt_or_ge j l.length with h | h
  ·exact h
  ·rw [List.getElem?_eq_none h] at hj; cases hj
 unfold fillB
 rw [← List.map_set]
 congr 1
 have hl : (l.take j).length = j := by rw [List.length_take]; omega
 rw [List.set_append_right _ _ (by omega), hl, Nat.sub_self, show n - j = (n - (j + 1)) + 1 by omega, List.replicate_succ, List.set_cons_zero, List.take_add_one, hj]
 simp
/-- What the helper asks of a mark at a bool. -/
def third (x : Int) : Bool := x % 3 == 0
def marksBl (j n : Nat) : List Bool := (List.range n).map fun i => third ((j + i : Nat) : Int)
theorem marksBl_len (j n : Nat) : (marksBl j n).length = n := by simp [marksBl]
theorem marksBl_get {j n i : Nat} (h : i < n) : (marksBl j n)[i]? = some (third ((j + i : Nat) : Int)) := by unfold marksBl; simp [h]
def partB (j0 j : Nat) (l : List Bool) : List Value := ((marksBl j0 j ++ l.drop j).map Value.bool)
theorem partB_zero (j0 : Nat) (l : List Bool) : partB j0 0 l = l.map Value.bool := by simp [partB, marksBl]
theorem partB_all (j0 n : Nat) (l : List Bool) (h : l.length = n) : partB j0 n l = (marksBl j0 n).map Value.bool := by
 unfold partB
 rw [List.drop_eq_nil_of_le (by omega), List.append_nil]
theorem partB_step {l : List Bool} {i n : Nat} (j : Nat) (hi : i < n) (hn : l.length = n) : (partB j i l).set i (.bool (third ((j + i : Nat) : Int))) = partB j (i + 1) l := by
 unfold partB
 rw [← List.map_set]
 congr 1
 rw [List.set_append_right _ _ (by rw [marksBl_len]; omega), marksBl_len, Nat.sub_self, List.drop_eq_getElem_cons (by omega), List.set_cons_zero]
 simp [marksBl, List.range_succ]

end Go.Proofs.YtckmgbobkffabaaGreat
