/- The mathematics of the law of machines: the dual is valid where the machine is, and runs the negated numbers alike. No function of the program is spoken of. -/
import Derived.Test.YtaaogdhkehkamaaRm
import Derived.Test.YtaaogdhkehkamaaBxm
namespace Go.Proofs.Ytaaogdhkehkamaa
open Go.ChangeShapes Go.WideShapes Go.ChangeAt Go.RowKit
set_option linter.unusedVariables false

theorem hit_neg (s : Int) (b : Bool) (k : Int) (y : Mv) : hitM s b k y.neg = hitM s (!b) k y := by
  rw [Bool.eq_iff_iff, hitM_iff, hitM_iff]
  unfold Mv.neg
  dsimp only
  cases h1 : y.send <;> cases b <;> simp
theorem okM_neg (st : Int) (y : Mv) : okM st y.neg = okM st y := rfl
theorem other_neg (l : List Mv) (y : Mv) : hasOther (l.map Mv.neg) y.neg = hasOther l y := by
  unfold hasOther
  rw [List.any_map]
  congr 1
  funext z
  show turnM y.neg z.neg = turnM y z
  unfold turnM Mv.neg
  dsimp only
  cases y.send <;> cases z.send <;> rfl
theorem same_neg (x y : Mv) : sameKey x.neg y.neg = sameKey x y := by
  unfold sameKey
  rw [hit_neg]
  unfold Mv.neg
  dsimp only
  rw [Bool.not_not]
theorem distinct_neg (l : List Mv) : Distinct (l.map Mv.neg) ↔ Distinct l := by
  unfold Distinct
  rw [List.pairwise_map]
  simp only [same_neg]
theorem isMac_dual (x : Mac) : isMac (dualM x) = isMac x := by
  unfold isMac dualM
  dsimp only
  rw [List.length_map, List.all_map]
  have h1 : (goodM ⟨x.st, x.ends, x.moves.map Mv.neg⟩ ∘ Mv.neg) = goodM x := by
    funext y
    show goodM ⟨x.st, x.ends, x.moves.map Mv.neg⟩ y.neg = goodM x y
    unfold goodM
    dsimp only
    rw [okM_neg, other_neg]
  rw [h1, decide_eq_decide.2 (distinct_neg x.moves)]
theorem next_neg (l : List Mv) (s n : Int) : nextM (l.map Mv.neg) s (-n - 1) = (nextM l s n).map Mv.neg := by
  unfold nextM
  rw [List.find?_map]
  congr 2
  funext y
  show hitM s (sendNo (-n - 1)) (msgNo (-n - 1)) y.neg = hitM s (sendNo n) (msgNo n) y
  rw [hit_neg]
  have e1 : (!sendNo (-n - 1)) = sendNo n := by
    unfold sendNo
    by_cases h : 0 ≤ n
    · rw [decide_eq_true h, decide_eq_false (by omega)]; rfl
    · rw [decide_eq_false h, decide_eq_true (by omega)]; rfl
  have e2 : msgNo (-n - 1) = msgNo n := by
    unfold msgNo
    by_cases h : 0 ≤ n
    · rw [if_pos h, if_neg (by omega)]; omega
    · rw [if_neg h, if_pos (by omega)]
  rw [e1, e2]
def negW (l : List Int) : List Int := l.map fun n => -n - 1
theorem runTo_neg (l : List Mv) : ∀ (w : List Int) (s : Int), runTo (l.map Mv.neg) s (negW w) = runTo l s w
  | [], s => rfl
  | n :: t, s => by
    show (match nextM (l.map Mv.neg) s (-n - 1) with | some y => runTo (l.map Mv.neg) y.to (negW t) | none => none) = runTo l s (n :: t)
    rw [next_neg]
    show (match (nextM l s n).map Mv.neg with | some y => runTo (l.map Mv.neg) y.to (negW t) | none => none) = (match nextM l s n with | some y => runTo l y.to t | none => none)
    cases nextM l s n with
    | none => rfl
    | some y => exact runTo_neg l t y.to
theorem runM_neg (x : Mac) (w : List Int) : runM (dualM x) (negW w) = runM x w := by
  unfold runM
  rw [isMac_dual]
  unfold negW dualM
  dsimp only
  rw [List.length_map]
  have := runTo_neg x.moves w 0
  unfold negW at this
  rw [this]
/-- A state that is reached lies within the machine. -/
theorem runM_state {x : Mac} {w : List Int} (h : 0 ≤ runM x w) : isMac x = true ∧ runM x w < x.st := by
  unfold runM at h ⊢
  split at h
  · rename_i hc
    rw [if_pos hc]
    have hp := isMac_parts hc.1
    refine ⟨hc.1, ?_⟩
    have key : ∀ (l : List Int) (s s' : Int), 0 ≤ s → s < x.st → runTo x.moves s l = some s' → s' < x.st := by
      intro l
      induction l with
      | nil => intro s s' h0 h1 h2; simp [runTo] at h2; omega
      | cons n t ih =>
        intro s s' h0 h1 h2
        unfold runTo at h2
        cases hn : nextM x.moves s n with
        | none => rw [hn] at h2; cases h2
        | some y =>
          rw [hn] at h2
          have := okM_to hp.1.2 (hp.2.2.2.1 y (next_mem hn).1)
          exact ih y.to s' this.1 (by omega) h2
    cases hr : runTo x.moves 0 w with
    | none => rw [hr] at h; simp at h
    | some s' =>
      have := key w 0 s' (by omega) (by omega) hr
      simpa using this
  · omega
theorem neg_i64 {n : Int} (h : I64 n) : I64 (-n - 1) := by unfold I64 at h ⊢; omega
theorem negW_step {l : List Int} {j : Nat} {x : Int} (h : l[j]? = some x) : negW (l.take (j + 1)) = negW (l.take j) ++ [-x - 1] := by
  unfold negW
  rw [List.take_add_one, h]
  simp
theorem movesFrom_hit {x : Mac} {s : Int} {b : Bool} {j : Nat} {k : Int} (h : (movesFrom x s b)[j]? = some k) : 0 ≤ moveOf x s b k := by
  have hm : k ∈ msgsOf x.moves s b := by
    have h1 := List.mem_of_getElem? h
    unfold movesFrom at h1
    rw [(puts_asc (l := msgsOf x.moves s b) (acc := []) (by simp [Asc])).2 k] at h1
    simpa using h1
  unfold msgsOf at hm
  obtain ⟨y, hy, e⟩ := List.mem_map.1 hm
  obtain ⟨hy1, hy2⟩ := List.mem_filter.1 hy
  have hp : hitM s b k y = true := by
    simp only [fromM, Bool.and_eq_true, beq_iff_eq] at hy2
    exact hitM_iff.2 ⟨hy2.1, hy2.2, e⟩
  unfold moveOf
  rcases firstAt_cases (hitM s b k) x.moves with ⟨_, h2⟩ | ⟨i, z, e2, _⟩
  · rw [List.any_eq_false] at h2
    exact absurd hp (h2 y hy1)
  · rw [e2]; omega
theorem movesFrom_asc {x : Mac} {s : Int} {b : Bool} {j : Nat} {k k' : Int} (h : (movesFrom x s b)[j]? = some k) (h' : (movesFrom x s b)[j + 1]? = some k') : k < k' := by
  have ha : Asc (movesFrom x s b) := (puts_asc (l := msgsOf x.moves s b) (acc := []) (by simp [Asc])).1
  have h1 := at_lt h'
  rw [List.getElem?_eq_getElem (by omega)] at h h'
  rw [← Option.some.inj h, ← Option.some.inj h']
  exact List.pairwise_iff_getElem.1 ha j (j + 1) (by omega) h1 (by omega)
end Go.Proofs.Ytaaogdhkehkamaa
