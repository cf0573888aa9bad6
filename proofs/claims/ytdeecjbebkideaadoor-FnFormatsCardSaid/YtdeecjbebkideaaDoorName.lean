/- The names of the fields' kinds. -/
import Derived.Test.YtdeecjbebkideaaDoorNameI
namespace Go.Proofs.YtdeecjbebkideaaDoor
open Go.ChangeShapes Go.WideShapes Go.ChangeAt Go.RowKit
set_option linter.unusedVariables false

set_option maxRecDepth 100000 in
theorem fieldName_any (k : Int) (w : World) : Calls Tryd.prog 62 #[.int .i64 k] w (Told (.string ⟨(nameOf k).toArray⟩) w) := by
  have hq : k = 1 ∨ k = 2 ∨ k = 3 ∨ (k ≠ 1 ∧ k ≠ 2 ∧ k ≠ 3) := by omega
  rcases hq with rfl | rfl | rfl | ⟨h1, h2, h3⟩
  · go_enter Tryd.func62, Tryd.ntmps62
    go_wp2
    go_ret
    exact ⟨rfl, (Below.refl _ w).alloc (Nat.le_refl _) _⟩
  · go_enter Tryd.func62, Tryd.ntmps62
    go_wp2
    go_ret
    exact ⟨rfl, (Below.refl _ w).alloc (Nat.le_refl _) _⟩
  · go_enter Tryd.func62, Tryd.ntmps62
    go_wp2
    go_ret
    exact ⟨rfl, (Below.refl _ w).alloc (Nat.le_refl _) _⟩
  · have e1 : (k == 1) = false := by simpa using h1
    have e2 : (k == 2) = false := by simpa using h2
    have e3 : (k == 3) = false := by simpa using h3
    have en : nameOf k = [] := by simp [nameOf, h1, h2, h3]
    rw [en]
    go_enter Tryd.func62, Tryd.ntmps62
    go_wp2
    go_ret
    exact ⟨rfl, (Below.refl _ w).alloc (Nat.le_refl _) _⟩

set_option maxRecDepth 100000 in
theorem specFieldName_any (k : Int) (w : World) : Calls Tryd.prog 49 #[.int .i64 k] w (Told (.string ⟨(nameOf k).toArray⟩) w) := by
  have hq : k = 1 ∨ k = 2 ∨ k = 3 ∨ (k < 1 ∨ 3 < k) := by omega
  rcases hq with rfl | rfl | rfl | h1
  · go_enter Tryd.func49, Tryd.ntmps49
    go_wp2
    go_ret
    exact ⟨rfl, (Below.refl _ w).alloc (Nat.le_refl _) _⟩
  · go_enter Tryd.func49, Tryd.ntmps49
    go_wp2
    go_ret
    exact ⟨rfl, (Below.refl _ w).alloc (Nat.le_refl _) _⟩
  · go_enter Tryd.func49, Tryd.ntmps49
    go_wp2
    go_ret
    exact ⟨rfl, (Below.refl _ w).alloc (Nat.le_refl _) _⟩
  · have en : nameOf k = [] := by simp [nameOf, show k ≠ 1 by omega, show k ≠ 2 by omega, show k ≠ 3 by omega]
    have hd : decide (1 ≤ k ∧ k ≤ 3) = false := by simp; omega
    rw [en]
    go_enter Tryd.func49, Tryd.ntmps49
    go_wp2_with (go_at_call 68; refine (l1R_any k 1 3 _).mono ?_; rw [hd]; rintro e w' ⟨rfl, rfl⟩)
    go_ret
    exact ⟨rfl, Below.refl _ _⟩
end Go.Proofs.YtdeecjbebkideaaDoor
