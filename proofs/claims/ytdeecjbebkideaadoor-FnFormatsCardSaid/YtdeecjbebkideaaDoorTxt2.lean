/- The text of a format, by the program. -/
import Derived.Test.YtdeecjbebkideaaDoorJoinF
namespace Go.Proofs.YtdeecjbebkideaaDoor
open Go.ChangeShapes Go.WideShapes Go.ChangeAt Go.RowKit Go.Lib
set_option linter.unusedVariables false

set_option maxHeartbeats 1000000 in
set_option maxRecDepth 100000 in
theorem formatText_yes (a : Option Addr) (n c : Nat) (l : List Fd) (w : World) (h : Fds w a n l) (hc : n ≤ c ∧ (c : Int) ≤ 9223372036854775807) (ht : Pow10 w) (hf : isFmt l = true) :
    Calls Tryd.prog 12 #[.slice a n c] w (Told (.string ⟨(textTo l).toArray⟩) w) := by
  have hl := h.len
  have hF := isFmt_iff.1 hf
  have hn6 : 1 ≤ n ∧ n ≤ 6 := by have := hF.1; omega
  have hsm : ∀ x ∈ l, Small x := fun x hx => by
    obtain ⟨j, hj, rfl⟩ := List.getElem_of_mem hx
    exact small_of (l := l) (j := j) (fun i y hi hy => hF.2 i y (by omega) hy) (by omega) (List.getElem?_eq_getElem hj)
  have htl := textTo_len (l := l) (by omega) hF.2 l.length (Nat.le_refl _)
  rw [List.take_of_length_le (Nat.le_refl _), hl] at htl
  have hisf := isFormat_any a n c l w h hc
  rw [hf] at hisf
  have HIS := Lib.hid hisf
  have HJ : Hid (∀ w0, Below w.heap.size w w0 → Calls Tryd.prog 38 #[.slice a n c, .string ⟨#[32]⟩, .func (.func 39) #[] #[]] w0 (Told (.string ⟨(textTo l).toArray⟩) w0)) := Lib.hid fun w0 hb0 =>
    joinF_any a n c l [32] w0 (h.same hb0) hsm hn6.1 (by omega) (by
      show (textTo l).length ≤ _
      omega) (pow_stays ht hb0 (Nat.le_refl _))
  clear h ht hf hF hisf hsm htl hl
  go_enter Tryd.func12, Tryd.ntmps12
  go_wp2_with fail
  refine HIS.out.mono ?_
  rintro e w1 ⟨rfl, hb1⟩
  have HB1 := Lib.hid hb1
  clear hb1
  go_wp2_with fail
  refine (HJ.out _ HB1.out).mono ?_
  rintro e w2 ⟨rfl, hb2⟩
  have HB2 := Lib.hid (HB1.out.trans (hb2.mono HB1.out.size))
  clear hb2
  go_wp2_with fail
  go_ret
  exact ⟨rfl, HB2.out⟩
set_option maxRecDepth 100000 in
theorem formatText_any (a : Option Addr) (n c : Nat) (l : List Fd) (w : World) (h : Fds w a n l) (hc : n ≤ c ∧ (c : Int) ≤ 9223372036854775807) (ht : Pow10 w) :
    Calls Tryd.prog 12 #[.slice a n c] w (Told (.string ⟨(fmtText l).toArray⟩) w) := by
  cases hf : isFmt l with
  | true =>
    rw [show fmtText l = textTo l by unfold fmtText; rw [if_pos hf]]
    exact formatText_yes a n c l w h hc ht hf
  | false =>
    rw [show fmtText l = [] by unfold fmtText; rw [if_neg (by rw [hf]; decide)]]
    have hisf := isFormat_any a n c l w h hc
    rw [hf] at hisf
    have HIS := Lib.hid hisf
    clear h ht hf hisf
    go_enter Tryd.func12, Tryd.ntmps12
    go_wp2_with fail
    refine HIS.out.mono ?_
    rintro e w1 ⟨rfl, hb1⟩
    have HB1 := Lib.hid hb1
    clear hb1
    go_wp2
    go_ret
    exact ⟨rfl, HB1.out⟩
end Go.Proofs.YtdeecjbebkideaaDoor
