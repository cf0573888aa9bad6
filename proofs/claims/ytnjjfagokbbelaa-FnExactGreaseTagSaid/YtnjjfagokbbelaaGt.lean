/- The reserved tag that a seed picks: by the program and by the model. -/
import Derived.Test.YtnjjfagokbbelaaGm
namespace Go.Proofs.Ytnjjfagokbbelaa
open Go.ChangeShapes Go.WideShapes Go.ChangeAt Go.RowKit
set_option linter.unusedVariables false

set_option maxRecDepth 100000 in
theorem greaseTag_any (s : Int) (hs : Fit64 s) (w : World) : Calls Try.prog 26 #[.int .i64 s] w (Told (.int .i64 (tagG s)) w) := by
  have HP := Lib.hid (pickOf_any s 0 16 w hs (fit_mk (by omega) (by omega)) (fit_mk (by omega) (by omega)))
  have hb := tagG_bd s
  have HE : Hid (tagG s = 16 * pickOf s 0 16 + 10) := Lib.hid rfl
  generalize tagG s = t at HE ⊢
  generalize pickOf s 0 16 = p at HE HP hb
  go_enter Try.func26, Try.ntmps26
  go_wp2_with fail
  refine HP.out.mono ?_
  rintro e w1 ⟨rfl, hb1⟩
  have HB := Lib.hid hb1
  clear hb1 HP
  have hw1 : IntKind.i64.wrap (16 * p) = 16 * p := by rw [IntKind.wrap_i64]; omega
  have hw2 : IntKind.i64.wrap (16 * p + 10) = 16 * p + 10 := by rw [IntKind.wrap_i64]; omega
  go_wp2_with fail
  go_ret
  exact ⟨by rw [HE.out]; rfl, HB.out⟩
set_option maxRecDepth 100000 in
theorem specGreaseTag_any (s : Int) (hs : Fit64 s) (w : World) : Calls Try.prog 42 #[.int .i64 s] w (Told (.int .i64 (tagG s)) w) := by
  have HP := Lib.hid (specPickOf_any s 0 16 w hs (fit_mk (by omega) (by omega)) (fit_mk (by omega) (by omega)))
  have hb := tagG_bd s
  have HE : Hid (tagG s = 16 * pickOf s 0 16 + 10) := Lib.hid rfl
  generalize tagG s = t at HE ⊢
  generalize pickOf s 0 16 = p at HE HP hb
  go_enter Try.func42, Try.ntmps42
  go_wp2_with fail
  refine HP.out.mono ?_
  rintro e w1 ⟨rfl, hb1⟩
  have HB := Lib.hid hb1
  clear hb1 HP
  have hw1 : IntKind.i64.wrap (16 * p) = 16 * p := by rw [IntKind.wrap_i64]; omega
  have hw2 : IntKind.i64.wrap (16 * p + 10) = 16 * p + 10 := by rw [IntKind.wrap_i64]; omega
  go_wp2_with fail
  go_ret
  exact ⟨by rw [HE.out]; rfl, HB.out⟩
end Go.Proofs.Ytnjjfagokbbelaa
