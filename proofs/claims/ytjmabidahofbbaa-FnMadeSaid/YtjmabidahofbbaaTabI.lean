/- The table of functions that write, read and measure a field's value: what is handed out for a kind. -/
import Derived.Test.YtjmabidahofbbaaVal
import Derived.Laws.EntriesVeiled
import Derived.Handy
namespace Go.Proofs.Ytjmabidahofbbaa
open Go.ChangeShapes Go.WideShapes Go.ChangeAt Go.RowKit
set_option linter.unusedVariables false

/-- The functions for the numbers, and those for the texts and the lists. -/
def numCode : Value := .agg #[.func (.func 104) #[] #[], .func (.func 105) #[] #[], .func (.func 106) #[] #[]]
def itemsCode : Value := .agg #[.func (.func 101) #[] #[], .func (.func 102) #[] #[], .func (.func 103) #[] #[]]

theorem three_same (w : World) (A B C : Obj) : Below w.heap.size w (((w.alloc A).alloc B).alloc C) :=
  (((Below.refl _ w).alloc (Nat.le_refl _) _).alloc (by simp) _).alloc (by simp; omega) _
set_option maxHeartbeats 1000000 in
set_option maxRecDepth 100000 in
theorem codeOf_num (w : World) : Calls Try.prog 82 #[.int .i64 1] w (fun e w' => e = .returned numCode ∧ Below w.heap.size w w') := by
  unfold numCode
  go_enter Try.func82, Try.ntmps82
  go_wp2_with fail
  go_returns
  exact ⟨rfl, three_same _ _ _ _⟩
set_option maxHeartbeats 1000000 in
set_option maxRecDepth 100000 in
theorem codeOf_text (w : World) : Calls Try.prog 82 #[.int .i64 2] w (fun e w' => e = .returned itemsCode ∧ Below w.heap.size w w') := by
  unfold itemsCode
  go_enter Try.func82, Try.ntmps82
  go_wp2_with fail
  go_returns
  exact ⟨rfl, three_same _ _ _ _⟩
set_option maxHeartbeats 1000000 in
set_option maxRecDepth 100000 in
theorem codeOf_list (w : World) : Calls Try.prog 82 #[.int .i64 3] w (fun e w' => e = .returned itemsCode ∧ Below w.heap.size w w') := by
  unfold itemsCode
  go_enter Try.func82, Try.ntmps82
  go_wp2_with fail
  go_returns
  exact ⟨rfl, three_same _ _ _ _⟩
theorem codeOf_more {k : Int} (hk : k = 2 ∨ k = 3) (w : World) : Calls Try.prog 82 #[.int .i64 k] w (fun e w' => e = .returned itemsCode ∧ Below w.heap.size w w') := by
  rcases hk with rfl | rfl
  · exact codeOf_text w
  · exact codeOf_list w
theorem numCode_write (w : World) : (Instr.field 114 (.agg #[.func (.func 104) #[] #[], .func (.func 105) #[] #[], .func (.func 106) #[] #[]]) 0).run Try.prog w = .ok (.func (.func 104) #[] #[]) w := by kernel_rfl
theorem numCode_read (w : World) : (Instr.field 114 (.agg #[.func (.func 104) #[] #[], .func (.func 105) #[] #[], .func (.func 106) #[] #[]]) 1).run Try.prog w = .ok (.func (.func 105) #[] #[]) w := by kernel_rfl
theorem numCode_longest (w : World) : (Instr.field 114 (.agg #[.func (.func 104) #[] #[], .func (.func 105) #[] #[], .func (.func 106) #[] #[]]) 2).run Try.prog w = .ok (.func (.func 106) #[] #[]) w := by kernel_rfl
theorem itemsCode_write (w : World) : (Instr.field 114 (.agg #[.func (.func 101) #[] #[], .func (.func 102) #[] #[], .func (.func 103) #[] #[]]) 0).run Try.prog w = .ok (.func (.func 101) #[] #[]) w := by kernel_rfl
theorem itemsCode_read (w : World) : (Instr.field 114 (.agg #[.func (.func 101) #[] #[], .func (.func 102) #[] #[], .func (.func 103) #[] #[]]) 1).run Try.prog w = .ok (.func (.func 102) #[] #[]) w := by kernel_rfl
theorem itemsCode_longest (w : World) : (Instr.field 114 (.agg #[.func (.func 101) #[] #[], .func (.func 102) #[] #[], .func (.func 103) #[] #[]]) 2).run Try.prog w = .ok (.func (.func 103) #[] #[]) w := by kernel_rfl
end Go.Proofs.Ytjmabidahofbbaa
