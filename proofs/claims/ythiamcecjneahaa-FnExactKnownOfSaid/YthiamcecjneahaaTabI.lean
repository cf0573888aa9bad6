/- The table of functions that write, read and measure a field's value: what is handed out for a kind. -/
import Derived.Test.YthiamcecjneahaaVal
import Derived.Laws.EntriesVeiled
import Derived.Handy
namespace Go.Proofs.Ythiamcecjneahaa
open Go.ChangeShapes Go.WideShapes Go.ChangeAt Go.RowKit
set_option linter.unusedVariables false

/-- The functions for the numbers, and those for the texts and the lists. -/
def numCode : Value := .agg #[.func (.func 78) #[] #[], .func (.func 79) #[] #[], .func (.func 80) #[] #[]]
def itemsCode : Value := .agg #[.func (.func 42) #[] #[], .func (.func 76) #[] #[], .func (.func 77) #[] #[]]

theorem three_same (w : World) (A B C : Obj) : Below w.heap.size w (((w.alloc A).alloc B).alloc C) :=
  (((Below.refl _ w).alloc (Nat.le_refl _) _).alloc (by simp) _).alloc (by simp; omega) _
set_option maxHeartbeats 1000000 in
set_option maxRecDepth 100000 in
theorem codeOf_num (w : World) : Calls Try.prog 75 #[.int .i64 1] w (fun e w' => e = .returned numCode ∧ Below w.heap.size w w') := by
  unfold numCode
  go_enter Try.func75, Try.ntmps75
  go_wp2_with fail
  go_returns
  exact ⟨rfl, three_same _ _ _ _⟩
set_option maxHeartbeats 1000000 in
set_option maxRecDepth 100000 in
theorem codeOf_text (w : World) : Calls Try.prog 75 #[.int .i64 2] w (fun e w' => e = .returned itemsCode ∧ Below w.heap.size w w') := by
  unfold itemsCode
  go_enter Try.func75, Try.ntmps75
  go_wp2_with fail
  go_returns
  exact ⟨rfl, three_same _ _ _ _⟩
set_option maxHeartbeats 1000000 in
set_option maxRecDepth 100000 in
theorem codeOf_list (w : World) : Calls Try.prog 75 #[.int .i64 3] w (fun e w' => e = .returned itemsCode ∧ Below w.heap.size w w') := by
  unfold itemsCode
  go_enter Try.func75, Try.ntmps75
  go_wp2_with fail
  go_returns
  exact ⟨rfl, three_same _ _ _ _⟩
theorem codeOf_more {k : Int} (hk : k = 2 ∨ k = 3) (w : World) : Calls Try.prog 75 #[.int .i64 k] w (fun e w' => e = .returned itemsCode ∧ Below w.heap.size w w') := by
  rcases hk with rfl | rfl
  · exact codeOf_text w
  · exact codeOf_list w
theorem numCode_write (w : World) : (Instr.field 106 (.agg #[.func (.func 78) #[] #[], .func (.func 79) #[] #[], .func (.func 80) #[] #[]]) 0).run Try.prog w = .ok (.func (.func 78) #[] #[]) w := by kernel_rfl
theorem numCode_read (w : World) : (Instr.field 106 (.agg #[.func (.func 78) #[] #[], .func (.func 79) #[] #[], .func (.func 80) #[] #[]]) 1).run Try.prog w = .ok (.func (.func 79) #[] #[]) w := by kernel_rfl
theorem numCode_longest (w : World) : (Instr.field 106 (.agg #[.func (.func 78) #[] #[], .func (.func 79) #[] #[], .func (.func 80) #[] #[]]) 2).run Try.prog w = .ok (.func (.func 80) #[] #[]) w := by kernel_rfl
theorem itemsCode_write (w : World) : (Instr.field 106 (.agg #[.func (.func 42) #[] #[], .func (.func 76) #[] #[], .func (.func 77) #[] #[]]) 0).run Try.prog w = .ok (.func (.func 42) #[] #[]) w := by kernel_rfl
theorem itemsCode_read (w : World) : (Instr.field 106 (.agg #[.func (.func 42) #[] #[], .func (.func 76) #[] #[], .func (.func 77) #[] #[]]) 1).run Try.prog w = .ok (.func (.func 76) #[] #[]) w := by kernel_rfl
theorem itemsCode_longest (w : World) : (Instr.field 106 (.agg #[.func (.func 42) #[] #[], .func (.func 76) #[] #[], .func (.func 77) #[] #[]]) 2).run Try.prog w = .ok (.func (.func 77) #[] #[]) w := by kernel_rfl
end Go.Proofs.Ythiamcecjneahaa
