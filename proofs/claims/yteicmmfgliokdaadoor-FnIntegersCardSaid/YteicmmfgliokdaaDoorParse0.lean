/- Lemmas on the digits read so far, and the program's InRange. -/
import Derived.Test.YteicmmfgliokdaaDoorRows
import Derived.Test.YteicmmfgliokdaaDoorFmt
namespace Go.Proofs.YteicmmfgliokdaaDoor
open Go.ChangeShapes Go.WideShapes Go.ChangeAt Go.RowKit Go.Lib
set_option linter.unusedVariables false

theorem take_snoc (s : ByteArray) (k : Nat) (h : k < s.size) : s.data.toList.take (k + 1) = s.data.toList.take k ++ [s[k]] := by
  rw [List.take_succ_eq_append_getElem (by simpa using h)]; rfl
theorem allDig_take (l : List UInt8) (k : Nat) (h : allDig l = true) : allDig (l.take k) = true := by
  unfold allDig at *
  rw [List.all_eq_true] at *
  intro x hx
  exact h x (List.mem_of_mem_take hx)
theorem not_allDig (l : List UInt8) (k : Nat) (h : allDig (l.take k) = false) : allDig l = false := by
  cases hl : allDig l with
  | false => rfl
  | true => rw [allDig_take l k hl] at h; cases h
theorem num_bound (l : List UInt8) (k : Nat) (hk : k ≤ 13) (h : allDig (l.take k) = true) : numOf (l.take k) < 10 ^ k := by
  have h1 := numOf_lt _ h
  have h2 : (l.take k).length ≤ k := List.length_take_le _ _
  exact Nat.lt_of_lt_of_le h1 (Nat.pow_le_pow_right (by omega) h2)

theorem ret2 {a b : Int} {x y : Bool} (h : a = b) (k : x = y) : Ending.returned (.tuple #[.int .i64 a, .bool x]) = Ending.returned (.tuple #[.int .i64 b, .bool y]) := by rw [h, k]
theorem inRange_yes (n l h : Int) (h1 : l ≤ n) (h2 : n ≤ h) (w : World) :
    Calls Tryd.prog 18 #[.int .i64 n, .int .i64 l, .int .i64 h] w fun e w' => e = .returned (.bool true) ∧ w = w' := by
  go_enter Tryd.func18, Tryd.ntmps18; go_wp2; go_ret; exact ⟨rfl, rfl⟩
theorem inRange_no (n l h : Int) (h1 : ¬ (l ≤ n ∧ n ≤ h)) (w : World) :
    Calls Tryd.prog 18 #[.int .i64 n, .int .i64 l, .int .i64 h] w fun e w' => e = .returned (.bool false) ∧ w = w' := by
  by_cases h2 : l ≤ n
  · have h3 : ¬ n ≤ h := fun h3 => h1 ⟨h2, h3⟩
    go_enter Tryd.func18, Tryd.ntmps18; go_wp2; go_ret; exact ⟨rfl, rfl⟩
  · clear h1
    go_enter Tryd.func18, Tryd.ntmps18; go_wp2; go_ret; exact ⟨rfl, rfl⟩

end Go.Proofs.YteicmmfgliokdaaDoor
