/- What is written is read, and what is read was written: for the functions' answers. No function of the program is spoken of. -/
import Derived.Test.YtjmabidahofbbaaRpM
namespace Go.Proofs.Ytjmabidahofbbaa
open Go.ChangeShapes Go.WideShapes Go.ChangeAt Go.RowKit
set_option linter.unusedVariables false

theorem rp_code {l : List Fd} {v : List Vl} (h : fitsFmt l v = true) (r : List Int) : rpV l (encOf l v ++ r) = v ∧ rpK l (encOf l v ++ r) = ((encOf l v).length : Int) := by
  rw [encOf_yes h]
  exact rp_some (rdP_code h r)
theorem dm_code {l : List Fd} {v : List Vl} (h : fitsFmt l v = true) : dmOk l (encOf l v) = true ∧ dmV l (encOf l v) = v := by
  have h1 := rp_code h []
  rw [List.append_nil] at h1
  have h2 : dmOk l (encOf l v) = true := by unfold dmOk; exact decide_eq_true h1.2
  exact ⟨h2, by unfold dmV; rw [if_pos h2]; exact h1.1⟩
theorem dm_not {l : List Fd} {y : List Int} (h : dmOk l y = false) : dmV l y = [] := by unfold dmV; rw [if_neg (by rw [h]; decide)]
theorem dm_form {l : List Fd} {y : List Int} (h : dmOk l y = true) : fitsFmt l (dmV l y) = true ∧ encOf l (dmV l y) = y := by
  have h0 : dmV l y = rpV l y := by unfold dmV; rw [if_pos h]
  rw [h0]
  unfold dmOk at h
  rw [decide_eq_true_eq] at h
  cases hr : rdP l y with
  | none =>
    rw [(rp_none hr).2] at h
    omega
  | some s =>
    obtain ⟨v, k⟩ := s
    have h1 := rp_some hr
    rw [h1.2] at h
    rw [h1.1]
    obtain ⟨q1, q2, q3⟩ := rdP_form hr
    refine ⟨q1, ?_⟩
    rw [encOf_yes q1, ← q3, List.take_of_length_le (by omega)]
theorem long_code {l : List Fd} {v : List Vl} (h : fitsFmt l v = true) : ((encOf l v).length : Int) ≤ longOf l := by
  rw [encOf_yes h]
  exact codeOf_long h
theorem len_code {l : List Fd} {v : List Vl} (h : fitsFmt l v = true) : lenOf l v = ((encOf l v).length : Int) := by unfold lenOf; rw [if_pos h]
end Go.Proofs.Ytjmabidahofbbaa
