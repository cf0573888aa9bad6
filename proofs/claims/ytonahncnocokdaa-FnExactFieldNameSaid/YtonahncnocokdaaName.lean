/- The names of the fields' kinds, and the greatest Max of each; being in a range. -/
import Derived.Test.YtonahncnocokdaaItems
import Derived.Handy
import Derived.Deep.QuietTactic
import Derived.BigQuiet
namespace Go.Proofs.Ytonahncnocokdaa
open Go.ChangeShapes Go.WideShapes Go.ChangeAt Go.RowKit
set_option linter.unusedVariables false

theorem inR_any (n l h : Int) (w : World) :
    Calls Try.prog 24 #[.int .i64 n, .int .i64 l, .int .i64 h] w fun e w' => e = .returned (.bool (decide (l ≤ n ∧ n ≤ h))) ∧ w = w' := by
  by_cases h1 : l ≤ n <;> by_cases h2 : n ≤ h <;> (go_enter Try.func24, Try.ntmps24; go_wp2; go_ret; exact ⟨by simp [h1, h2], rfl⟩)
theorem l1R_any (n l h : Int) (w : World) :
    Calls Try.prog 22 #[.int .i64 n, .int .i64 l, .int .i64 h] w fun e w' => e = .returned (.bool (decide (l ≤ n ∧ n ≤ h))) ∧ w = w' := by
  by_cases h1 : l ≤ n <;> by_cases h2 : n ≤ h <;> (go_enter Try.func22, Try.ntmps22; go_wp2; go_ret; exact ⟨by simp [h1, h2], rfl⟩)

/-- A kind's name. -/
def nameOf (k : Int) : List UInt8 := if k = 1 then [110, 117, 109] else if k = 2 then [116, 101, 120, 116] else if k = 3 then [108, 105, 115, 116] else []
/-- A kind's greatest Max. -/
def mostOf (k : Int) : Int := if k = 1 then 99 else if k = 2 then 5 else if k = 3 then 5 else 0
/-- The value that stands for a kind. -/
def typeVal (k : Int) : Value := if k = 1 then .iface 54 (.agg #[]) else if k = 2 then .iface 55 (.agg #[]) else if k = 3 then .iface 56 (.agg #[]) else .iface 57 (.agg #[])

set_option maxRecDepth 100000 in
theorem typeOf_any (k : Int) (w : World) : Calls Try.prog 25 #[.int .i64 k] w fun e w' => e = .returned (typeVal k) ∧ w = w' := by
  by_cases h1 : k = 1
  · subst h1
    go_enter Try.func25, Try.ntmps25
    go_wp2
    go_ret
    exact ⟨rfl, rfl⟩
  · by_cases h2 : k = 2
    · subst h2
      go_enter Try.func25, Try.ntmps25
      go_wp2
      go_ret
      exact ⟨rfl, rfl⟩
    · by_cases h3 : k = 3
      · subst h3
        go_enter Try.func25, Try.ntmps25
        go_wp2
        go_ret
        exact ⟨rfl, rfl⟩
      · have e1 : (k == 1) = false := by simpa using h1
        have e2 : (k == 2) = false := by simpa using h2
        have e3 : (k == 3) = false := by simpa using h3
        go_enter Try.func25, Try.ntmps25
        go_wp2
        go_ret
        exact ⟨by simp [typeVal, h1, h2, h3], rfl⟩

set_option maxRecDepth 100000 in
theorem fieldName_any (k : Int) (w : World) : Calls Try.prog 13 #[.int .i64 k] w (Told (.string ⟨(nameOf k).toArray⟩) w) := by
  have hq : k = 1 ∨ k = 2 ∨ k = 3 ∨ (k ≠ 1 ∧ k ≠ 2 ∧ k ≠ 3) := by omega
  rcases hq with rfl | rfl | rfl | ⟨h1, h2, h3⟩
  · go_enter Try.func13, Try.ntmps13
    go_wp2
    go_ret
    exact ⟨rfl, (Below.refl _ w).alloc (Nat.le_refl _) _⟩
  · go_enter Try.func13, Try.ntmps13
    go_wp2
    go_ret
    exact ⟨rfl, (Below.refl _ w).alloc (Nat.le_refl _) _⟩
  · go_enter Try.func13, Try.ntmps13
    go_wp2
    go_ret
    exact ⟨rfl, (Below.refl _ w).alloc (Nat.le_refl _) _⟩
  · have e1 : (k == 1) = false := by simpa using h1
    have e2 : (k == 2) = false := by simpa using h2
    have e3 : (k == 3) = false := by simpa using h3
    have en : nameOf k = [] := by simp [nameOf, h1, h2, h3]
    rw [en]
    go_enter Try.func13, Try.ntmps13
    go_wp2
    go_ret
    exact ⟨rfl, (Below.refl _ w).alloc (Nat.le_refl _) _⟩

set_option maxRecDepth 100000 in
theorem specFieldName_any (k : Int) (w : World) : Calls Try.prog 12 #[.int .i64 k] w (Told (.string ⟨(nameOf k).toArray⟩) w) := by
  have hq : k = 1 ∨ k = 2 ∨ k = 3 ∨ (k < 1 ∨ 3 < k) := by omega
  rcases hq with rfl | rfl | rfl | h1
  · go_enter Try.func12, Try.ntmps12
    go_wp2
    go_ret
    exact ⟨rfl, (Below.refl _ w).alloc (Nat.le_refl _) _⟩
  · go_enter Try.func12, Try.ntmps12
    go_wp2
    go_ret
    exact ⟨rfl, (Below.refl _ w).alloc (Nat.le_refl _) _⟩
  · go_enter Try.func12, Try.ntmps12
    go_wp2
    go_ret
    exact ⟨rfl, (Below.refl _ w).alloc (Nat.le_refl _) _⟩
  · have en : nameOf k = [] := by simp [nameOf, show k ≠ 1 by omega, show k ≠ 2 by omega, show k ≠ 3 by omega]
    have hd : decide (1 ≤ k ∧ k ≤ 3) = false := by simp; omega
    rw [en]
    go_enter Try.func12, Try.ntmps12
    go_wp2_with (go_at_call 22; refine (l1R_any k 1 3 _).mono ?_; rw [hd]; rintro e w' ⟨rfl, rfl⟩)
    go_ret
    exact ⟨rfl, Below.refl _ _⟩

theorem mostNum_any (w : World) : Calls Try.prog 67 #[.agg #[]] w (Told (.int .i64 99) w) := by
  go_enter Try.func67, Try.ntmps67
  go_wp2
  go_ret
  exact ⟨rfl, (Below.refl _ w).alloc (Nat.le_refl _) _⟩
theorem mostText_any (w : World) : Calls Try.prog 69 #[.agg #[]] w (Told (.int .i64 5) w) := by
  go_enter Try.func69, Try.ntmps69
  go_wp2
  go_ret
  exact ⟨rfl, (Below.refl _ w).alloc (Nat.le_refl _) _⟩
theorem mostList_any (w : World) : Calls Try.prog 71 #[.agg #[]] w (Told (.int .i64 5) w) := by
  go_enter Try.func71, Try.ntmps71
  go_wp2
  go_ret
  exact ⟨rfl, (Below.refl _ w).alloc (Nat.le_refl _) _⟩
theorem mostNo_any (w : World) : Calls Try.prog 73 #[.agg #[]] w (Told (.int .i64 0) w) := by
  go_enter Try.func73, Try.ntmps73
  go_wp2
  go_ret
  exact ⟨rfl, (Below.refl _ w).alloc (Nat.le_refl _) _⟩
end Go.Proofs.Ytonahncnocokdaa
