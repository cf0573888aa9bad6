/- Whether a field is there: by the program. -/
import Derived.Test.YtnjjfagokbbelaaVal
import Derived.Test.YtnjjfagokbbelaaNameI
import Derived.Deep.RegionHeld3
import Derived.Deep.QuietTactic
import Derived.BigQuiet
namespace Go.Proofs.Ytnjjfagokbbelaa
open Go.ChangeShapes Go.WideShapes Go.ChangeAt Go.RowKit
set_option linter.unusedVariables false

/-- Whether there is a field i, and its condition is met. -/
def isThere (l : List Fd) (v : List Vl) (i : Int) : Bool :=
  if 0 ≤ i ∧ i ≤ (l.length : Int) - 1 then
    match l[i.toNat]? with
    | some x => if x.cond = -1 then true else decide (0 ≤ x.cond ∧ x.cond ≤ (v.length : Int) - 1) && (match v[x.cond.toNat]? with
      | some y => decide (y.num = x.is)
      | none => false)
    | none => false
  else false
theorem isThere_out {l : List Fd} {v : List Vl} {i : Int} (h : ¬ (0 ≤ i ∧ i ≤ (l.length : Int) - 1)) : isThere l v i = false := if_neg h
theorem isThere_in {l : List Fd} {v : List Vl} {k : Nat} {x : Fd} (h : l[k]? = some x) : isThere l v k = (if x.cond = -1 then true else decide (0 ≤ x.cond ∧ x.cond ≤ (v.length : Int) - 1) && (match v[x.cond.toNat]? with
      | some y => decide (y.num = x.is)
      | none => false)) := by
  have hk := lt_of_some h
  unfold isThere
  rw [if_pos ⟨by omega, by omega⟩, Int.toNat_natCast, h]
theorem isThere_always {l : List Fd} {v : List Vl} {k : Nat} {x : Fd} (h : l[k]? = some x) (hc : x.cond = -1) : isThere l v k = true := by rw [isThere_in h, if_pos hc]
theorem isThere_far {l : List Fd} {v : List Vl} {k : Nat} {x : Fd} (h : l[k]? = some x) (hc : x.cond ≠ -1) (hd : ¬ (0 ≤ x.cond ∧ x.cond ≤ (v.length : Int) - 1)) : isThere l v k = false := by rw [isThere_in h, if_neg hc, decide_eq_false hd]; rfl
theorem isThere_when {l : List Fd} {v : List Vl} {k q : Nat} {x : Fd} {y : Vl} (h : l[k]? = some x) (hc : x.cond = q) (hy : v[q]? = some y) : isThere l v k = (y.num == x.is) := by
  have hq := lt_of_some hy
  rw [isThere_in h, if_neg (by omega), decide_eq_true (by omega), hc, Int.toNat_natCast, hy]
  simp only [Bool.true_and]
  by_cases e : y.num = x.is <;> simp [e]
theorem inR_t {n l h : Int} {x : Bool} (e : decide (l ≤ n ∧ n ≤ h) = x) (w : World) :
    Calls Try.prog 70 #[.int .i64 n, .int .i64 l, .int .i64 h] w fun e w' => e = .returned (.bool x) ∧ w' = w := (inR_any n l h w).mono fun e' w' ⟨h1, h2⟩ => ⟨by rw [h1, e], h2.symm⟩
theorem eqb_dec (x y : Int) : (x == y) = decide (x = y) := by by_cases h : x = y <;> simp [h]

end Go.Proofs.Ytnjjfagokbbelaa
