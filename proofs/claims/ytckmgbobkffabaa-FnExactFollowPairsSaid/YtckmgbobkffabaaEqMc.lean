/- Machines are compared: by the program. -/
import Derived.Test.YtckmgbobkffabaaMac
import Derived.Test.YtckmgbobkffabaaIntI
import Derived.Deep.QuietTactic
import Derived.BigQuiet
import Derived.RegionTactic
import Derived.StillTailTactics
import Derived.Handy
namespace Go.Proofs.Ytckmgbobkffabaa
open Go.ChangeShapes Go.WideShapes Go.ChangeAt Go.RowKit
set_option linter.unusedVariables false

theorem neMv {x y : Mv} (h : x ≠ y) : (x.frm == y.frm) = false ∨ (x.frm = y.frm ∧ (x.send == y.send) = false) ∨ (x.frm = y.frm ∧ x.send = y.send ∧ (x.msg == y.msg) = false) ∨ (x.frm = y.frm ∧ x.send = y.send ∧ x.msg = y.msg ∧ (x.to == y.to) = false) := by
  obtain ⟨a1, a2, a3, a4⟩ := x
  obtain ⟨b1, b2, b3, b4⟩ := y
  simp only [ne_eq, Mv.mk.injEq, not_and] at h
  simp only [beq_eq_false_iff_ne, ne_eq]
  by_cases h1 : a1 = b1
  · by_cases h2 : a2 = b2
    · by_cases h3 : a3 = b3
      · exact Or.inr (Or.inr (Or.inr ⟨h1, h2, h3, h h1 h2 h3⟩))
      · exact Or.inr (Or.inr (Or.inl ⟨h1, h2, h3⟩))
    · exact Or.inr (Or.inl ⟨h1, h2⟩)
  · exact Or.inl h1
/-- The two boxes of machines that are compared. -/
theorem two_boxes (w : World) (c1 c2 : Array Value) (t : TypeId) : Below w.heap.size w ((w.alloc (.cells c1 t)).alloc (.cells c2 t)) ∧ ((w.alloc (.cells c1 t)).alloc (.cells c2 t)).heap[w.heap.size]? = some (.cells c1 t (0, 0)) ∧
    ((w.alloc (.cells c1 t)).alloc (.cells c2 t)).heap[w.heap.size + 1]? = some (.cells c2 t (0, 0)) ∧ ((w.alloc (.cells c1 t)).alloc (.cells c2 t)).heap.size = w.heap.size + 2 := by
  refine ⟨((Below.refl _ w).alloc (Nat.le_refl _) _).alloc (by simp) _, ?_, ?_, by simp⟩
  · rw [Below.heap_alloc _ _ _ (by simp)]
    exact heap_alloc_new w (.cells c1 t (0, 0))
  · have := heap_alloc_new (w.alloc (.cells c1 t)) (.cells c2 t (0, 0))
    simpa using this

end Go.Proofs.Ytckmgbobkffabaa
