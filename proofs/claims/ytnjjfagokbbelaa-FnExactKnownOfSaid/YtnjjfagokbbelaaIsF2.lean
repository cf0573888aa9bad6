/- Being a format, by the program. -/
import Derived.Test.YtnjjfagokbbelaaIsF
namespace Go.Proofs.Ytnjjfagokbbelaa
open Go.ChangeShapes Go.WideShapes Go.ChangeAt Go.RowKit
set_option linter.unusedVariables false
set_option linter.unusedSimpArgs false

theorem cell_kept {w w' : World} {a : Addr} {v : Value} (h : w.cell? a = some v) (hb : Below w.heap.size w w') : w'.cell? a = some v := by
  rw [hb.cell (cell_in h)]; exact h
theorem typeNum (w : World) : Calls Try.prog 100 #[.int .i64 1] w fun e w' => e = .returned (.iface 112 (.agg #[])) ∧ w = w' := typeOf_any 1 w
theorem typeText (w : World) : Calls Try.prog 100 #[.int .i64 2] w fun e w' => e = .returned (.iface 113 (.agg #[])) ∧ w = w' := typeOf_any 2 w
theorem typeList (w : World) : Calls Try.prog 100 #[.int .i64 3] w fun e w' => e = .returned (.iface 115 (.agg #[])) ∧ w = w' := typeOf_any 3 w
theorem typeNo (k : Int) (h : k ≠ 1 ∧ k ≠ 2 ∧ k ≠ 3) (w : World) : Calls Try.prog 100 #[.int .i64 k] w fun e w' => e = .returned (.iface 123 (.agg #[])) ∧ w = w' := by
  have := typeOf_any k w
  rw [show typeVal k = .iface 123 (.agg #[]) by simp [typeVal, h.1, h.2.1, h.2.2]] at this
  exact this
theorem okTo_zero (l : List Fd) : okTo l 0 := fun i x h => absurd h (by omega)
theorem okTo_succ {l : List Fd} {j : Nat} {x : Fd} (h : okTo l j) (hx : l[j]? = some x) (hf : fieldOk (l.take j) x = true) : okTo l (j + 1) := by
  intro i y hi hy
  by_cases e : i = j
  · subst e
    rw [hx] at hy
    cases hy
    exact hf
  · exact h i y (by omega) hy
theorem isFmt_no {l : List Fd} {j : Nat} {x : Fd} (hx : l[j]? = some x) (hf : fieldOk (l.take j) x = false) : isFmt l = false := by
  have hj : j < l.length := by
    rcases Nat.lt_or_ge j l.length with h | h
    · exact h
    · rw [List.getElem?_eq_none h] at hx; cases hx
  unfold isFmt
  refine @decide_eq_false _ (Classical.propDecidable _) fun h => ?_
  have := h.2 j x hj hx
  rw [hf] at this
  cases this
theorem isFmt_yes {l : List Fd} (h : 1 ≤ l.length ∧ l.length ≤ 6) (ho : okTo l l.length) : isFmt l = true := @decide_eq_true _ (Classical.propDecidable _) ⟨h, ho⟩
theorem isFmt_len {l : List Fd} (h : ¬ (1 ≤ l.length ∧ l.length ≤ 6)) : isFmt l = false := @decide_eq_false _ (Classical.propDecidable _) fun h' => h h'.1
theorem isFmt_iff {l : List Fd} : isFmt l = true ↔ IsFmt l := by unfold isFmt; exact @decide_eq_true_iff _ (Classical.propDecidable _)

end Go.Proofs.Ytnjjfagokbbelaa
