/- The laws' own small helpers: a byte of the input. -/
import Derived.Test.YtnkbahnhngajfaaDr
namespace Go.Proofs.Ytnkbahnhngajfaa
open Go.ChangeShapes Go.WideShapes Go.ChangeAt Go.RowKit
set_option linter.unusedVariables false

set_option maxRecDepth 100000 in
theorem at_any (a : Option Addr) (n c i : Nat) (hi : i ≤ 1000) (w : World) (h : Code w a n) (hn : n ≤ 1048576) :
    Calls Try.prog 20 #[.slice a n c, .int .i64 i] w fun e w' => ∃ x : Nat, x ≤ 255 ∧ e = .returned (.int .i64 x) ∧ w = w' := by
  have H := Lib.hid h
  clear h
  by_cases hlt : i < n
  · obtain ⟨ad, rfl, x, hx0, hx1, hx⟩ := H.out.1 i hlt
    obtain ⟨y, rfl⟩ : ∃ y : Nat, x = y := ⟨x.toNat, by omega⟩
    go_enter Try.func20, Try.ntmps20
    go_wp2
    go_ret
    exact ⟨y, by omega, rfl, rfl⟩
  · have h1 : (n : Int) ≤ 1048576 := by omega
    go_enter Try.func20, Try.ntmps20
    go_wp2
    go_ret
    exact ⟨(i * 31 + n * 7) % 256, by omega, by simp, rfl⟩
end Go.Proofs.Ytnkbahnhngajfaa
