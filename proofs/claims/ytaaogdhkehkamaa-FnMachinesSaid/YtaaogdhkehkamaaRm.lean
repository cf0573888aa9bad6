/- What a machine reaches by a list of numbers. No function of the program is spoken of. -/
import Derived.Test.YtaaogdhkehkamaaIm
namespace Go.Proofs.Ytaaogdhkehkamaa
open Go.ChangeShapes Go.WideShapes Go.ChangeAt Go.RowKit
set_option linter.unusedVariables false

def sendNo (n : Int) : Bool := decide (0 ≤ n)
def msgNo (n : Int) : Int := if 0 ≤ n then n else -n - 1
def nextM (l : List Mv) (s n : Int) : Option Mv := l.find? (hitM s (sendNo n) (msgNo n))
def runTo (l : List Mv) : Int → List Int → Option Int
  | s, [] => some s
  | s, n :: t => match nextM l s n with
    | some y => runTo l y.to t
    | none => none
theorem runTo_app (l : List Mv) : ∀ (a b : List Int) (s : Int), runTo l s (a ++ b) = match runTo l s a with | some s' => runTo l s' b | none => none
  | [], b, s => rfl
  | n :: t, b, s => by
    simp only [List.cons_append, runTo]
    cases nextM l s n with
    | none => rfl
    | some y => exact runTo_app l t b y.to
theorem runTo_step {l : List Mv} {w : List Int} {j : Nat} {s n : Int} {y : Mv} (h : runTo l 0 (w.take j) = some s) (hn : w[j]? = some n) (hy : nextM l s n = some y) : runTo l 0 (w.take (j + 1)) = some y.to := by
  rw [List.take_add_one, hn, runTo_app, h]
  simp [runTo, hy]
theorem runTo_stop {l : List Mv} {w : List Int} {j : Nat} {s n : Int} (h : runTo l 0 (w.take j) = some s) (hn : w[j]? = some n) (hy : nextM l s n = none) : runTo l 0 w = none := by
  have hj : j < w.length := by
    rcases Nat.lt_or_ge j w.length with h | h
    · exact h
    · rw [List.getElem?_eq_none h] at hn; cases hn
  have e : w = w.take j ++ n :: w.drop (j + 1) := by
    rw [List.getElem?_eq_getElem hj] at hn
    rw [← Option.some.inj hn, ← List.drop_eq_getElem_cons hj, List.take_append_drop]
  rw [e, runTo_app, h]
  simp [runTo, hy]
/-- The state that is reached, or -1. -/
def runM (x : Mac) (w : List Int) : Int := if isMac x = true ∧ w.length ≤ 20 then (runTo x.moves 0 w).getD (-1) else -1
theorem isMac_parts {x : Mac} (h : isMac x = true) : (1 ≤ x.st ∧ x.st ≤ 6) ∧ (x.ends.length : Int) = x.st ∧ x.moves.length ≤ 12 ∧ (∀ z ∈ x.moves, okM x.st z = true) ∧ Distinct x.moves := by
  simp only [isMac, inB, Bool.and_eq_true, decide_eq_true_eq] at h
  refine ⟨h.1, h.2.1, h.2.2.1, fun z hz => ?_, h.2.2.2.2⟩
  have := List.all_eq_true.1 h.2.2.2.1 z hz
  simp only [goodM, Bool.and_eq_true] at this
  exact this.1
theorem okM_to {st : Int} {z : Mv} (h6 : st ≤ 6) (h : okM st z = true) : 0 ≤ z.to ∧ z.to ≤ st - 1 := by
  simp only [okM, inB, Bool.and_eq_true, decide_eq_true_eq] at h
  exact h.2.1
theorem next_mem {l : List Mv} {s n : Int} {y : Mv} (h : nextM l s n = some y) : y ∈ l ∧ hitM s (sendNo n) (msgNo n) y = true := ⟨List.mem_of_find?_eq_some h, List.find?_some h⟩
theorem Distinct.one {l : List Mv} (h : Distinct l) {s : Int} {b : Bool} {k : Int} {x y : Mv} (hx : x ∈ l) (hy : y ∈ l) (px : hitM s b k x = true) (py : hitM s b k y = true) : x = y := by
  obtain ⟨i, hi, rfl⟩ := List.getElem_of_mem hx
  obtain ⟨j, hj, rfl⟩ := List.getElem_of_mem hy
  have hs : ∀ u v : Mv, hitM s b k u = true → hitM s b k v = true → sameKey u v = true := fun u v hu hv => by
    rw [hitM_iff] at hu hv
    exact hitM_iff.2 ⟨by rw [hu.1, hv.1], by rw [hu.2.1, hv.2.1], by rw [hu.2.2, hv.2.2]⟩
  rcases Nat.lt_trichotomy i j with g | g | g
  · have := List.pairwise_iff_getElem.1 h i j hi hj g
    rw [hs _ _ px py] at this
    cases this
  · subst g; rfl
  · have := List.pairwise_iff_getElem.1 h j i hj hi g
    rw [hs _ _ py px] at this
    cases this
theorem Distinct.rev {l : List Mv} (h : Distinct l) (s : Int) (b : Bool) (k : Int) : l.reverse.find? (hitM s b k) = l.find? (hitM s b k) := by
  cases e : l.find? (hitM s b k) with
  | none =>
    rw [List.find?_eq_none] at e ⊢
    exact fun x hx => e x (List.mem_reverse.1 hx)
  | some y =>
    have hy := List.mem_of_find?_eq_some e
    have py := List.find?_some e
    cases e2 : l.reverse.find? (hitM s b k) with
    | none =>
      rw [List.find?_eq_none] at e2
      exact absurd py (e2 y (List.mem_reverse.2 hy))
    | some z =>
      have hz := List.mem_reverse.1 (List.mem_of_find?_eq_some e2)
      rw [h.one hz hy (List.find?_some e2) py]
theorem firstAt_find {p : Mv → Bool} (l : List Mv) : (firstAt p l = -1 ∧ l.find? p = none) ∨ ∃ (j : Nat) (y : Mv), firstAt p l = (j : Int) ∧ l[j]? = some y ∧ l.find? p = some y := by
  rcases firstAt_cases p l with ⟨e, h⟩ | ⟨j, y, e, hy, hp, hb⟩
  · refine Or.inl ⟨e, ?_⟩
    rw [List.find?_eq_none]
    rw [List.any_eq_false] at h
    exact h
  · refine Or.inr ⟨j, y, e, hy, ?_⟩
    have hj := at_lt hy
    have e2 : l = l.take j ++ y :: l.drop (j + 1) := by
      rw [List.getElem?_eq_getElem hj] at hy
      rw [← Option.some.inj hy, ← List.drop_eq_getElem_cons hj, List.take_append_drop]
    rw [e2, List.find?_append]
    have : (l.take j).find? p = none := by
      rw [List.find?_eq_none]
      rw [List.any_eq_false] at hb
      exact hb
    rw [this]
    simp [hp]
theorem msgNo_wf {n : Int} (h : (Lit.int .i64 n).wf = true) : (Lit.int .i64 (msgNo n)).wf = true := by
  have : -9223372036854775808 ≤ n ∧ n ≤ 9223372036854775807 := by
    simp [Lit.wf, IntKind.min, IntKind.max, IntKind.signed, IntKind.bits] at h
    omega
  unfold msgNo
  split <;> exact WalkArith.wf_i64 (by omega)
end Go.Proofs.Ytaaogdhkehkamaa
