/- The table of functions that write, read and measure a field's value: what is handed out for a kind. -/
import Derived.Test.YtnjjfagokbbelaaVal
import Derived.Laws.EntriesVeiled
import Derived.Handy
namespace Go.Proofs.Ytnjjfagokbbelaa
open Go.ChangeShapes Go.WideShapes Go.ChangeAt Go.RowKit
set_option linter.unusedVariables false

/-- The functions for the numbers, and those for the texts and the lists. -/
def numCode : Value := .agg #[.func (.func 112) #[] #[], .func (.func 113) #[] #[], .func (.func 114) #[] #[]]
def itemsCode : Value := .agg #[.func (.func 48) #[] #[], .func (.func 110) #[] #[], .func (.func 111) #[] #[]]

theorem three_same (w : World) (A B C : Obj) : Below w.heap.size w (((w.alloc A).alloc B).alloc C) :=
  (((Below.refl _ w).alloc (Nat.le_refl _) _).alloc (by simp) _).alloc (by simp; omega) _
set_option maxHeartbeats 1000000 in
set_option maxRecDepth 100000 in
theorem codeOf_num (w : World) : Calls Try.prog 106 #[.int .i64 1] w (fun e w' => e = .returned numCode ∧ Below w.heap.size w w') := by
  unfold numCode
  go_enter Try.func106, Try.ntmps106
  go_wp2_with fail
  go_returns
  exact ⟨rfl, three_same _ _ _ _⟩
set_option maxHeartbeats 1000000 in
set_option maxRecDepth 100000 in
theorem codeOf_text (w : World) : Calls Try.prog 106 #[.int .i64 2] w (fun e w' => e = .returned itemsCode ∧ Below w.heap.size w w') := by
  unfold itemsCode
  go_enter Try.func106, Try.ntmps106
  go_wp2_with fail
  go_returns
  exact ⟨rfl, three_same _ _ _ _⟩
set_option maxHeartbeats 1000000 in
set_option maxRecDepth 100000 in
theorem codeOf_list (w : World) : Calls Try.prog 106 #[.int .i64 3] w (fun e w' => e = .returned itemsCode ∧ Below w.heap.size w w') := by
  unfold itemsCode
  go_enter Try.func106, Try.ntmps106
  go_wp2_with fail
  go_returns
  exact ⟨rfl, three_same _ _ _ _⟩
theorem codeOf_more {k : Int} (hk : k = 2 ∨ k = 3) (w : World) : Calls Try.prog 106 #[.int .i64 k] w (fun e w' => e = .returned itemsCode ∧ Below w.heap.size w w') := by
  rcases hk with rfl | rfl
  · exact codeOf_text w
  · exact codeOf_list w
theorem numCode_write (w : World) : (Instr.field 127 (.agg #[.func (.func 112) #[] #[], .func (.func 113) #[] #[], .func (.func 114) #[] #[]]) 0).run Try.prog w = .ok (.func (.func 112) #[] #[]) w := by kernel_rfl
theorem numCode_read (w : World) : (Instr.field 127 (.agg #[.func (.func 112) #[] #[], .func (.func 113) #[] #[], .func (.func 114) #[] #[]]) 1).run Try.prog w = .ok (.func (.func 113) #[] #[]) w := by kernel_rfl
theorem numCode_longest (w : World) : (Instr.field 127 (.agg #[.func (.func 112) #[] #[], .func (.func 113) #[] #[], .func (.func 114) #[] #[]]) 2).run Try.prog w = .ok (.func (.func 114) #[] #[]) w := by kernel_rfl
theorem itemsCode_write (w : World) : (Instr.field 127 (.agg #[.func (.func 48) #[] #[], .func (.func 110) #[] #[], .func (.func 111) #[] #[]]) 0).run Try.prog w = .ok (.func (.func 48) #[] #[]) w := by kernel_rfl
theorem itemsCode_read (w : World) : (Instr.field 127 (.agg #[.func (.func 48) #[] #[], .func (.func 110) #[] #[], .func (.func 111) #[] #[]]) 1).run Try.prog w = .ok (.func (.func 110) #[] #[]) w := by kernel_rfl
theorem itemsCode_longest (w : World) : (Instr.field 127 (.agg #[.func (.func 48) #[] #[], .func (.func 110) #[] #[], .func (.func 111) #[] #[]]) 2).run Try.prog w = .ok (.func (.func 111) #[] #[]) w := by kernel_rfl
end Go.Proofs.Ytnjjfagokbbelaa
