/- The text of a value, by the program. -/
import Derived.Test.YtdeecjbebkideaaDoorJoinI
namespace Go.Proofs.YtdeecjbebkideaaDoor
open Go.ChangeShapes Go.WideShapes Go.ChangeAt Go.RowKit Go.Lib
set_option linter.unusedVariables false

set_option maxRecDepth 100000 in
theorem valueText_any (k : Int) (p : Option Addr) (m d : Nat) (y : List Int) (w : World) (h : Nums .i64 w p m y) (hok : Vl.ok ⟨k, y⟩) (hn : y.length ≤ 100000000) (ht : Pow10 w) :
    Calls Tryd.prog 47 #[.agg #[.int .i64 k, .slice p m d]] w (Told (.string ⟨(valText ⟨k, y⟩).toArray⟩) w) := by
  have HW : Hid (Below w.heap.size w (w.alloc (.cells #[.int .i64 k, .slice p m d] 41))) := Lib.hid (alloc_same w _)
  have hm := h.len
  by_cases hy : y = []
  · have e1 : valText ⟨k, y⟩ = itoa k := by unfold valText; rw [if_pos hy]
    have hm0 : m = 0 := by rw [← hm, hy]; rfl
    subst hm0
    have HFT : Hid (∀ w0, Below w.heap.size w w0 → Calls Tryd.prog 63 #[.int .i64 k] w0 (Told (.string ⟨(itoa k).toArray⟩) w0)) := Lib.hid fun w0 hb0 => fmt_any k hok.1.1 hok.1.2 w0 (pow_stays ht hb0 (Nat.le_refl _))
    rw [e1]
    clear e1 hm hy hok h ht
    go_enter Tryd.func47, Tryd.ntmps47
    go_wp2_with fail
    refine (HFT.out _ HW.out).mono ?_
    rintro e w1 ⟨rfl, hb⟩
    have HB1 := Lib.hid (HW.out.trans (hb.mono HW.out.size))
    clear hb
    go_wp2_with fail
    go_ret
    exact ⟨rfl, HB1.out⟩
  · have e1 : valText ⟨k, y⟩ = Lib.join (y.map itoa) [46] := by unfold valText; rw [if_neg hy]; rfl
    have hm0 : 1 ≤ m := by
      rcases Nat.eq_zero_or_pos m with e | e
      · exact absurd (List.eq_nil_of_length_eq_zero (by rw [hm, e])) hy
      · exact e
    have b0 : ((m : Int) == 0) = false := by simp; omega
    have hlen := itemsText_len hok.2
    unfold itemsText at hlen
    have HJ : Hid (∀ w0, Below w.heap.size w w0 → Calls Tryd.prog 67 #[.slice p m d, .string ⟨#[46]⟩, .func (.func 63) #[] #[]] w0 (Told (.string ⟨(Lib.join (y.map itoa) [46]).toArray⟩) w0)) := Lib.hid fun w0 hb0 => joinI_any p m d y [46] w0 (h.same hb0) hok.2 hm0 (by omega) (by dsimp only at hlen; omega) (pow_stays ht hb0 (Nat.le_refl _))
    rw [e1]
    clear e1 hm hy hok h ht hlen
    go_enter Tryd.func47, Tryd.ntmps47
    go_wp2_with fail
    refine (HJ.out _ HW.out).mono ?_
    rintro e w1 ⟨rfl, hb⟩
    have HB1 := Lib.hid (HW.out.trans (hb.mono HW.out.size))
    clear hb
    go_wp2_with fail
    go_ret
    exact ⟨rfl, HB1.out⟩
end Go.Proofs.YtdeecjbebkideaaDoor
