/- The helpers of the exact laws at slices of bytes: copied, compared, marked, looked at. -/
import Derived.Test.YtiaknjeeonlbcaaMem
import Derived.Deep.QuietTactic
import Derived.BigQuiet
import Derived.RegionTactic
namespace Go.Proofs.Ytiaknjeeonlbcaa
open Go.ChangeShapes Go.WideShapes Go.ChangeAt Go.RowKit
set_option linter.unusedVariables false

theorem infoByteS : (Try.prog.info? 5).map (fun i => (i.zero, i.size, i.bytes)) = some (some (.int .u8 0), 1, 1) := by kernel_rfl

/-- k elements are copied, the others are 0 still. -/
def fillByteS (l : List Int) (j n : Nat) : List Value := ((l.take j ++ List.replicate (n - j) 0).map (Value.int .u8))
theorem fillByteS_zero (l : List Int) (n : Nat) : fillByteS l 0 n = List.replicate n (.int .u8 0) := by unfold fillByteS; simp
theorem fillByteS_all (l : List Int) : fillByteS l l.length l.length = l.map (Value.int .u8) := by unfold fillByteS; simp
theorem fillByteS_step {l : List Int} {j : Nat} {x : Int} (hj : l[j]? = some x) {n : Nat} (hn : l.length = n) : (fillByteS l j n).set j (.int .u8 x) = fillByteS l (j + 1) n := by
  have hlt : j < l.length := by
    rcases Nat.lt_or_ge j l.length with h | h
    · exact h
    · rw [List.getElem?_eq_none h] at hj; cases hj
  unfold fillByteS
  rw [← List.map_set]
  congr 1
  have hl : (l.take j).length = j := by rw [List.length_take]; omega
  rw [List.set_append_right _ _ (by omega), hl, Nat.sub_self, show n - j = (n - (j + 1)) + 1 by omega, List.replicate_succ, List.set_cons_zero, List.take_add_one, hj]
  simp

/-- The marks that are laid: each one more than the one before. -/
def marksByteS (j n : Nat) : List Int := (List.range n).map fun i => (((j + i) % 256 : Nat) : Int)
theorem marksByteS_len (j n : Nat) : (marksByteS j n).length = n := by simp [marksByteS]
theorem marksByteS_get {j n i : Nat} (h : i < n) : (marksByteS j n)[i]? = some ((((j + i) % 256 : Nat) : Int)) := by unfold marksByteS; simp [h]
def partByteS (j0 j n : Nat) (l : List Int) : List Value := ((marksByteS j0 j ++ l.drop j).map (Value.int .u8))
theorem partByteS_zero (j0 n : Nat) (l : List Int) : partByteS j0 0 n l = l.map (Value.int .u8) := by simp [partByteS, marksByteS]
theorem partByteS_all (j0 n : Nat) (l : List Int) (h : l.length = n) : partByteS j0 n n l = (marksByteS j0 n).map (Value.int .u8) := by
  unfold partByteS
  rw [List.drop_eq_nil_of_le (by omega), List.append_nil]
theorem partByteS_step {l : List Int} {i n : Nat} (j : Nat) (hi : i < n) (hn : l.length = n) : (partByteS j i n l).set i (.int .u8 ((((j + i) % 256 : Nat) : Int))) = partByteS j (i + 1) n l := by
  unfold partByteS
  rw [← List.map_set]
  congr 1
  rw [List.set_append_right _ _ (by rw [marksByteS_len]; omega), marksByteS_len, Nat.sub_self, List.drop_eq_getElem_cons (by omega), List.set_cons_zero]
  simp [marksByteS, List.range_succ]

end Go.Proofs.Ytiaknjeeonlbcaa
