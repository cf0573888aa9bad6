/- The keys of moves: how a map reads them. -/
import Derived.Test.YtckmgbobkffabaaOpen
import Derived.Test.YtckmgbobkffabaaMv
import Derived.Maps.Own
import Derived.DeepKeys4
namespace Go.Proofs.Ytckmgbobkffabaa
open Go.ChangeShapes Go.WideShapes Go.ChangeAt Go.RowKit
set_option linter.unusedVariables false

/-- A key by value. -/
def keyV (s : Int) (b : Bool) (k : Int) : Value := .agg #[.int .i64 s, .bool b, .int .i64 k]
theorem key_law : Maps.Keyed Try.prog 103 := Maps.Keyed.of_law (deep_law_laid laidOut (m := 3) (by omega) (by decide +kernel) (by kernel_rfl) (by kernel_rfl))
def keyL (s : Int) (b : Bool) (k : Int) : Lit := .string (keyBytes [.int .i64 s, .bool b, .int .i64 k])
theorem key_read {s k : Int} (b : Bool) (hs : (Lit.int .i64 s).wf = true) (hk : (Lit.int .i64 k).wf = true) : keyOf Try.prog 103 (keyV s b k) = some (keyL s b k) := by
  have h1 : Try.prog.keyType 103 = true := by kernel_rfl
  unfold keyOf keyV
  rw [Try.underlying103]
  simp only [h1, Bool.true_and]
  have h2 : Value.formed Try.prog 103 (Value.agg #[Value.int IntKind.i64 s, Value.bool b, Value.int IntKind.i64 k]) = true := by
    unfold Value.formed
    rw [Try.underlying103]
    have : Try.prog.cellsOf 103 = 3 := by kernel_rfl
    rw [this]
    rfl
  rw [if_pos h2]
  have hC : Try.prog.cellsOf 103 = 3 := by kernel_rfl
  have hi : Try.prog.cellsOf 3 = 1 := by kernel_rfl
  have hb : Try.prog.cellsOf 4 = 1 := by kernel_rfl
  obtain ⟨d, hd⟩ : ∃ d, Try.prog.types.size + 1 = d + 1 + 1 := ⟨Try.prog.types.size - 1, by
    have : 0 < Try.prog.types.size := by decide +kernel
    omega⟩
  rw [hd]
  have e1 : ∀ n : Int, (Lit.int .i64 n).wf = true → Try.prog.keyLits (d + 1) 3 [Value.int IntKind.i64 n] = some [.int .i64 n] := fun n hn => by
    unfold Program.keyLits
    rw [Try.underlying3]
    simp [hn]
  have e2 : Try.prog.keyLits (d + 1) 4 [Value.bool b] = some [.bool b] := by
    unfold Program.keyLits
    rw [Try.underlying4]
  unfold Program.keyLits
  rw [Try.underlying103]
  simp [Value.cells, hC, hi, hb, e1 s hs, e1 k hk, e2, keyL]
end Go.Proofs.Ytckmgbobkffabaa
