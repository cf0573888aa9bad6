/- Values are compared: by the program. -/
import Derived.Test.YtjmabidahofbbaaVal
import Derived.Test.YtjmabidahofbbaaEqI
namespace Go.Proofs.Ytjmabidahofbbaa
open Go.ChangeShapes Go.WideShapes Go.ChangeAt Go.RowKit
set_option linter.unusedVariables false

set_option maxRecDepth 100000 in
theorem equalValues_yes {k : Int} {a b : Option Addr} {n m c d : Nat} {y : List Int} {w : World} (h : Nums .i64 w a n y) (h' : Nums .i64 w b m y) :
    Calls Try.prog 60 #[.agg #[.int .i64 k, .slice a n c], .agg #[.int .i64 k, .slice b m d]] w (Told (.bool true) w) := by
  have HB : Hid (Below w.heap.size w ((w.alloc (.cells #[.int .i64 k, .slice a n c] 73)).alloc (.cells #[.int .i64 k, .slice b m d] 73))) := Lib.hid (((Below.refl _ w).alloc (Nat.le_refl _) _).alloc (by simp) _)
  have K := Lib.hid (fun (w0 : World) (hb : Below w.heap.size w w0) => slicesEqual_yes (c := c) (d := d) (h.same hb) (h'.same hb))
  clear h h'
  go_enter Try.func60, Try.ntmps60
  go_wp2_with fail
  refine (K.out _ HB.out).mono ?_
  rintro e w1 ⟨rfl, hb⟩
  have HB1 := Lib.hid (HB.out.trans (hb.mono HB.out.size))
  clear hb
  go_wp2_with fail
  go_ret
  exact ⟨rfl, HB1.out⟩
set_option maxRecDepth 100000 in
theorem equalValues_no {k q : Int} {a b : Option Addr} {n m c d : Nat} {y z : List Int} {w : World} (h : Nums .i64 w a n y) (h' : Nums .i64 w b m z) (hne : ¬ (k = q ∧ y = z)) :
    Calls Try.prog 60 #[.agg #[.int .i64 k, .slice a n c], .agg #[.int .i64 q, .slice b m d]] w (Told (.bool false) w) := by
  have HB : Hid (Below w.heap.size w ((w.alloc (.cells #[.int .i64 k, .slice a n c] 73)).alloc (.cells #[.int .i64 q, .slice b m d] 73))) := Lib.hid (((Below.refl _ w).alloc (Nat.le_refl _) _).alloc (by simp) _)
  by_cases hk : k = q
  · subst hk
    have hyz : y ≠ z := fun e => hne ⟨rfl, e⟩
    have K := Lib.hid (fun (w0 : World) (hb : Below w.heap.size w w0) => slicesEqual_no (c := c) (d := d) (h.same hb) (h'.same hb) hyz)
    clear h h' hyz hne
    go_enter Try.func60, Try.ntmps60
    go_wp2_with fail
    refine (K.out _ HB.out).mono ?_
    rintro e w1 ⟨rfl, hb⟩
    have HB1 := Lib.hid (HB.out.trans (hb.mono HB.out.size))
    clear hb
    go_wp2_with fail
    go_ret
    exact ⟨rfl, HB1.out⟩
  · have bk : (k == q) = false := by simpa using hk
    clear h h' hne hk
    go_enter Try.func60, Try.ntmps60
    go_wp2_with fail
    go_ret
    exact ⟨rfl, HB.out⟩
end Go.Proofs.Ytjmabidahofbbaa
