/- Lists of integers are compared: by the program. -/
import Derived.Test.YtiaknjeeonlbcaaEqI
namespace Go.Proofs.Ytiaknjeeonlbcaa
open Go.ChangeShapes Go.WideShapes Go.ChangeAt Go.RowKit
set_option linter.unusedVariables false

set_option maxRecDepth 100000 in
theorem equalInts_yes {a b : Option Addr} {n m c d : Nat} {l : List Int} {w : World} (h : Nums .i64 w a n l) (h' : Nums .i64 w b m l) :
    Calls Try.prog 34 #[.slice a n c, .slice b m d] w (Told (.bool true) w) := by
  have H := Lib.hid h
  have H' := Lib.hid h'
  clear h h'
  go_enter Try.func34, Try.ntmps34
  go_wp2_with fail
  refine (slicesEqual_yes H.out H'.out).mono ?_
  rintro e w1 ⟨rfl, hb1⟩
  have HB1 := Lib.hid hb1
  clear hb1
  go_wp2
  go_ret
  exact ⟨rfl, HB1.out⟩
set_option maxRecDepth 100000 in
theorem equalInts_no {a b : Option Addr} {n m c d : Nat} {l l' : List Int} {w : World} (h : Nums .i64 w a n l) (h' : Nums .i64 w b m l') (hne : l ≠ l') :
    Calls Try.prog 34 #[.slice a n c, .slice b m d] w (Told (.bool false) w) := by
  have H := Lib.hid h
  have H' := Lib.hid h'
  have HE := Lib.hid hne
  clear h h' hne
  go_enter Try.func34, Try.ntmps34
  go_wp2_with fail
  refine (slicesEqual_no H.out H'.out HE.out).mono ?_
  rintro e w1 ⟨rfl, hb1⟩
  have HB1 := Lib.hid hb1
  clear hb1
  go_wp2
  go_ret
  exact ⟨rfl, HB1.out⟩
end Go.Proofs.Ytiaknjeeonlbcaa
