/- The kinds of fields, and the greatest Max of each; being in a range. -/
import Derived.Test.YtjmabidahofbbaaItems
import Derived.Handy
import Derived.Deep.QuietTactic
import Derived.BigQuiet
namespace Go.Proofs.Ytjmabidahofbbaa
open Go.ChangeShapes Go.WideShapes Go.ChangeAt Go.RowKit
set_option linter.unusedVariables false

theorem inR_any (n l h : Int) (w : World) :
    Calls Try.prog 55 #[.int .i64 n, .int .i64 l, .int .i64 h] w fun e w' => e = .returned (.bool (decide (l ≤ n ∧ n ≤ h))) ∧ w = w' := by
  by_cases h1 : l ≤ n <;> by_cases h2 : n ≤ h <;> (go_enter Try.func55, Try.ntmps55; go_wp2; go_ret; exact ⟨by simp [h1, h2], rfl⟩)
theorem l1R_any (n l h : Int) (w : World) :
    Calls Try.prog 58 #[.int .i64 n, .int .i64 l, .int .i64 h] w fun e w' => e = .returned (.bool (decide (l ≤ n ∧ n ≤ h))) ∧ w = w' := by
  by_cases h1 : l ≤ n <;> by_cases h2 : n ≤ h <;> (go_enter Try.func58, Try.ntmps58; go_wp2; go_ret; exact ⟨by simp [h1, h2], rfl⟩)

/-- A kind's name. -/
def nameOf (k : Int) : List UInt8 := if k = 1 then [110, 117, 109] else if k = 2 then [116, 101, 120, 116] else if k = 3 then [108, 105, 115, 116] else []
/-- A kind's greatest Max. -/
def mostOf (k : Int) : Int := if k = 1 then 99 else if k = 2 then 5 else if k = 3 then 5 else 0
/-- The value that stands for a kind. -/
def typeVal (k : Int) : Value := if k = 1 then .iface 117 (.agg #[]) else if k = 2 then .iface 118 (.agg #[]) else if k = 3 then .iface 119 (.agg #[]) else .iface 120 (.agg #[])

set_option maxRecDepth 100000 in
theorem typeOf_any (k : Int) (w : World) : Calls Try.prog 56 #[.int .i64 k] w fun e w' => e = .returned (typeVal k) ∧ w = w' := by
  by_cases h1 : k = 1
  · subst h1
    go_enter Try.func56, Try.ntmps56
    go_wp2
    go_ret
    exact ⟨rfl, rfl⟩
  · by_cases h2 : k = 2
    · subst h2
      go_enter Try.func56, Try.ntmps56
      go_wp2
      go_ret
      exact ⟨rfl, rfl⟩
    · by_cases h3 : k = 3
      · subst h3
        go_enter Try.func56, Try.ntmps56
        go_wp2
        go_ret
        exact ⟨rfl, rfl⟩
      · have e1 : (k == 1) = false := by simpa using h1
        have e2 : (k == 2) = false := by simpa using h2
        have e3 : (k == 3) = false := by simpa using h3
        go_enter Try.func56, Try.ntmps56
        go_wp2
        go_ret
        exact ⟨by simp [typeVal, h1, h2, h3], rfl⟩

theorem mostNum_any (w : World) : Calls Try.prog 134 #[.agg #[]] w (Told (.int .i64 99) w) := by
  go_enter Try.func134, Try.ntmps134
  go_wp2
  go_ret
  exact ⟨rfl, (Below.refl _ w).alloc (Nat.le_refl _) _⟩
theorem mostText_any (w : World) : Calls Try.prog 136 #[.agg #[]] w (Told (.int .i64 5) w) := by
  go_enter Try.func136, Try.ntmps136
  go_wp2
  go_ret
  exact ⟨rfl, (Below.refl _ w).alloc (Nat.le_refl _) _⟩
theorem mostList_any (w : World) : Calls Try.prog 138 #[.agg #[]] w (Told (.int .i64 5) w) := by
  go_enter Try.func138, Try.ntmps138
  go_wp2
  go_ret
  exact ⟨rfl, (Below.refl _ w).alloc (Nat.le_refl _) _⟩
theorem mostNo_any (w : World) : Calls Try.prog 140 #[.agg #[]] w (Told (.int .i64 0) w) := by
  go_enter Try.func140, Try.ntmps140
  go_wp2
  go_ret
  exact ⟨rfl, (Below.refl _ w).alloc (Nat.le_refl _) _⟩
end Go.Proofs.Ytjmabidahofbbaa
