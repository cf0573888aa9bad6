/- Being a format: by the program and by its model. -/
import Derived.Test.YtnjjfagokbbelaaFieldT
import Derived.Test.YtnjjfagokbbelaaNameI
import Derived.Deep.RegionHeld3
namespace Go.Proofs.Ytnjjfagokbbelaa
open Go.ChangeShapes Go.WideShapes Go.ChangeAt Go.RowKit
set_option linter.unusedVariables false

theorem beq_dec (x y : Int) : (x == y) = decide (x = y) := by by_cases h : x = y <;> simp [h]
/-- The condition of a field behind the fields l looks back at a number that is there always, and at a value that it can have. -/
def condOk (l : List Fd) (x : Fd) : Bool :=
  if x.cond = -1 then decide (x.is = 0)
  else decide (0 ≤ x.cond ∧ x.cond ≤ (l.length : Int) - 1) && (match l[x.cond.toNat]? with
    | some g => decide (g.kind = 1) && decide (g.cond = -1) && decide (0 ≤ x.is ∧ x.is ≤ g.max)
    | none => false)
def fieldOk (l : List Fd) (x : Fd) : Bool := decide (1 ≤ x.max ∧ x.max ≤ mostOf x.kind) && condOk l x
/-- The first j fields are as they must be. -/
def okTo (l : List Fd) (j : Nat) : Prop := ∀ i x, i < j → l[i]? = some x → fieldOk (l.take i) x = true
def IsFmt (l : List Fd) : Prop := (1 ≤ l.length ∧ l.length ≤ 6) ∧ okTo l l.length
noncomputable def isFmt (l : List Fd) : Bool := @decide (IsFmt l) (Classical.propDecidable _)

end Go.Proofs.Ytnjjfagokbbelaa
