/- The text of a list of values, by the program. -/
import Derived.Test.YtdeecjbebkideaaDoorJoinV
namespace Go.Proofs.YtdeecjbebkideaaDoor
open Go.ChangeShapes Go.WideShapes Go.ChangeAt Go.RowKit Go.Lib
set_option linter.unusedVariables false

set_option maxRecDepth 100000 in
theorem messageText_any (a : Option Addr) (n c : Nat) (l : List Vl) (w : World) (h : Vals w a n l) (hok : ∀ x ∈ l, x.ok) (hn : n + itemsOf l ≤ 2000000) (ht : Pow10 w) :
    Calls Tryd.prog 21 #[.slice a n c] w (Told (.string ⟨(msgText l).toArray⟩) w) := by
  have hl := h.len
  by_cases h0 : l = []
  · have hn0 : n = 0 := by rw [← hl, h0]; rfl
    have e1 : msgText l = [45] := by unfold msgText; rw [if_pos h0]
    rw [e1]
    subst hn0
    clear h hok ht e1 h0 hl
    go_enter Tryd.func21, Tryd.ntmps21
    go_wp2_with fail
    go_ret
    exact ⟨rfl, Below.refl _ _⟩
  · have hn1 : 1 ≤ n := by
      rcases Nat.eq_zero_or_pos n with e | e
      · exact absurd (List.eq_nil_of_length_eq_zero (by rw [hl, e])) h0
      · exact e
    have b0 : ((n : Int) == 0) = false := by simp; omega
    have e1 : msgText l = Lib.join (l.map valText) [32] := by unfold msgText; rw [if_neg h0]; rfl
    have hlen := msgTo_len hok
    unfold msgTo at hlen
    have HJ : Hid (Calls Tryd.prog 46 #[.slice a n c, .string ⟨#[32]⟩, .func (.func 47) #[] #[]] w (Told (.string ⟨(Lib.join (l.map valText) [32]).toArray⟩) w)) := Lib.hid
      (joinV_any a n c l [32] w h (fun x hx => ⟨hok x hx, by
        obtain ⟨j, hj, rfl⟩ := List.getElem_of_mem hx
        have := itemsOf_mem (List.getElem?_eq_getElem hj)
        omega⟩) hn1 (by omega) (by omega) ht)
    rw [e1]
    clear e1 h hok ht hlen h0 hl
    go_enter Tryd.func21, Tryd.ntmps21
    go_wp2_with fail
    refine HJ.out.mono ?_
    rintro e w1 ⟨rfl, hb1⟩
    have HB1 := Lib.hid hb1
    clear hb1
    go_wp2_with fail
    go_ret
    exact ⟨rfl, HB1.out⟩
end Go.Proofs.YtdeecjbebkideaaDoor
