/- Whether a list of values is a message of a format: by the program. -/
import Derived.Test.YtnjjfagokbbelaaIsF3
import Derived.Test.YtnjjfagokbbelaaFits
import Derived.Test.YtnjjfagokbbelaaEqV
import Derived.Deep.RegionHeld3
namespace Go.Proofs.Ytnjjfagokbbelaa
open Go.ChangeShapes Go.WideShapes Go.ChangeAt Go.RowKit
set_option linter.unusedVariables false
set_option linter.unusedSimpArgs false

/-- The value is empty. -/
def emptyV (k : Int) (y : List Int) : Bool := decide (k = 0) && decide (y = [])
/-- A field's value is as it must be: it fits if the field is there, and else is empty. -/
def fitsAt (x : Fd) (t : Bool) (k : Int) (y : List Int) : Bool := if t = true then fitsField x k y else emptyV k y
/-- The first j values are as they must be. -/
def fitsTo (l : List Fd) (v : List Vl) (j : Nat) : Prop := ∀ (i : Nat) (x : Fd) (y : Vl), i < j → l[i]? = some x → v[i]? = some y → fitsAt x (isThere l v i) y.num y.items = true
noncomputable def fitsFmt (l : List Fd) (v : List Vl) : Bool := isFmt l && (decide (v.length = l.length) && @decide (fitsTo l v l.length) (Classical.propDecidable _))
theorem fitsTo_zero (l : List Fd) (v : List Vl) : fitsTo l v 0 := fun i x y h => absurd h (by omega)
theorem fitsTo_step {l : List Fd} {v : List Vl} {j : Nat} {x : Fd} {y : Vl} (h : fitsTo l v j) (hx : l[j]? = some x) (hy : v[j]? = some y) (hf : fitsAt x (isThere l v j) y.num y.items = true) : fitsTo l v (j + 1) := by
  intro i x' y' hi hx' hy'
  by_cases e : i = j
  · subst e
    rw [hx] at hx'
    rw [hy] at hy'
    cases hx'
    cases hy'
    exact hf
  · exact h i x' y' (by omega) hx' hy'
theorem fitsFmt_notFmt {l : List Fd} {v : List Vl} (h : isFmt l = false) : fitsFmt l v = false := by unfold fitsFmt; rw [h]; rfl
theorem fitsFmt_len {l : List Fd} {v : List Vl} (h : v.length ≠ l.length) : fitsFmt l v = false := by unfold fitsFmt; rw [decide_eq_false h]; simp
theorem fitsFmt_no {l : List Fd} {v : List Vl} {j : Nat} {x : Fd} {y : Vl} (hx : l[j]? = some x) (hy : v[j]? = some y) (hf : fitsAt x (isThere l v j) y.num y.items = false) : fitsFmt l v = false := by
  have hn : ¬ fitsTo l v l.length := fun h => by
    have := h j x y (lt_of_some hx) hx hy
    rw [hf] at this
    cases this
  unfold fitsFmt
  rw [@decide_eq_false _ (Classical.propDecidable _) hn]
  simp
theorem fitsFmt_yes {l : List Fd} {v : List Vl} (h : isFmt l = true) (hl : v.length = l.length) (ht : fitsTo l v l.length) : fitsFmt l v = true := by
  unfold fitsFmt
  rw [h, decide_eq_true hl, @decide_eq_true _ (Classical.propDecidable _) ht]
  rfl
theorem fitsAt_there {x : Fd} {k : Int} {y : List Int} {t : Bool} (ht : t = true) : fitsAt x t k y = fitsField x k y := by unfold fitsAt; rw [if_pos ht]
theorem fitsAt_not {x : Fd} {k : Int} {y : List Int} {t : Bool} (ht : t = false) : fitsAt x t k y = emptyV k y := by unfold fitsAt; rw [if_neg (by rw [ht]; decide)]
end Go.Proofs.Ytnjjfagokbbelaa
