/- The bytes of a message, by the model; the greatest number of bytes of a format, by the model. -/
import Derived.Test.YtjmabidahofbbaaCode
import Derived.Test.YtjmabidahofbbaaFitsM
import Derived.Test.YtjmabidahofbbaaIntT
namespace Go.Proofs.Ytjmabidahofbbaa
open Go.ChangeShapes Go.WideShapes Go.ChangeAt Go.RowKit
set_option linter.unusedVariables false

theorem mostOf_le (k : Int) : mostOf k ≤ 99 := by
  unfold mostOf
  repeat' split
  all_goals omega
theorem roomF_le {l : List Fd} {j : Nat} {x : Fd} (hok : okTo l l.length) (hx : l[j]? = some x) : 1 ≤ roomF x ∧ roomF x ≤ 100 ∧ 1 ≤ x.max ∧ x.max ≤ 99 := by
  have h := hok j x (lt_of_some hx) hx
  unfold fieldOk at h
  rw [Bool.and_eq_true, decide_eq_true_eq] at h
  have h1 := h.1
  have h2 := mostOf_le x.kind
  by_cases hk : x.kind = 1
  · rw [roomF_num hk]
    omega
  · rw [roomF_more hk]
    omega
theorem longTo_le {l : List Fd} (hok : okTo l l.length) : ∀ j, j ≤ l.length → 0 ≤ longTo l j ∧ longTo l j ≤ 100 * j
  | 0, _ => by simp [longTo]
  | j + 1, hj => by
    obtain ⟨x, hx⟩ : ∃ x, l[j]? = some x := ⟨_, List.getElem?_eq_getElem (by omega)⟩
    have h1 := roomF_le hok hx
    have h2 := longTo_le hok j (by omega)
    rw [longTo_step hx]
    omega
theorem codeTo_few {l : List Fd} {v : List Vl} (hf : fitsFmt l v = true) (j : Nat) (hj : j ≤ l.length) : (codeTo l v j).length ≤ 600 := by
  obtain ⟨h1, h2, h3⟩ := fitsFmt_parts hf
  have h4 := (isFmt_iff.1 h1)
  have h5 := codeTo_long h4.2 h2 h3 j hj
  have h6 := longTo_le h4.2 j hj
  have := h4.1
  omega
/-- What is written for a list of values. -/
noncomputable def encOf (l : List Fd) (v : List Vl) : List Int := if fitsFmt l v = true then codeOf l v else []
theorem encOf_yes {l : List Fd} {v : List Vl} (h : fitsFmt l v = true) : encOf l v = codeOf l v := if_pos h
theorem encOf_no {l : List Fd} {v : List Vl} (h : fitsFmt l v = false) : encOf l v = [] := if_neg (by rw [h]; decide)
theorem encOf_few (l : List Fd) (v : List Vl) : (encOf l v).length ≤ 600 := by
  cases h : fitsFmt l v with
  | false => rw [encOf_no h]; simp
  | true => rw [encOf_yes h]; exact codeTo_few h _ (Nat.le_refl _)
/-- What a function leaves that writes a message. -/
def EncTold (tI : TypeId) (l : List Fd) (v : List Vl) (w : World) (e : Ending) (w' : World) : Prop :=
  ∃ a n c, e = .returned (.tuple #[.slice a n c, .bool (fitsFmt l v)]) ∧ Own .i64 tI w' w.heap.size a n c (encOf l v) ∧ Below w.heap.size w w'

/-- What a function leaves that tells a message's length. -/
noncomputable def lenOf (l : List Fd) (v : List Vl) : Int := if fitsFmt l v = true then ((encOf l v).length : Int) else -1
end Go.Proofs.Ytjmabidahofbbaa
