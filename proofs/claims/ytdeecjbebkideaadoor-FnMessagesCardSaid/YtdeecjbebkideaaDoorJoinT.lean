/- Texts as elements of a slice. -/
import Derived.Test.YtdeecjbebkideaaDoorItemsA
import Derived.Lib.Join
namespace Go.Proofs.YtdeecjbebkideaaDoor
open Go.ChangeShapes Go.WideShapes Go.ChangeAt Go.RowKit Go.Lib
set_option linter.unusedVariables false

theorem infoStrS : (Tryd.prog.info? 9).map (fun i => (i.zero, i.size, i.bytes)) = some (some (.string ⟨#[]⟩), 1, 16) := by kernel_rfl
/-- Texts, as strings. -/
def bsOf (ts : List (List UInt8)) : List ByteArray := ts.map fun t => ⟨t.toArray⟩
theorem bsOf_data (ts : List (List UInt8)) : (bsOf ts).map (·.data.toList) = ts := by
  unfold bsOf
  rw [List.map_map]
  exact List.map_id' ts
theorem bsOf_step {ts : List (List UInt8)} {j : Nat} {t : List UInt8} (h : ts[j]? = some t) : bsOf (ts.take (j + 1)) = bsOf (ts.take j) ++ [⟨t.toArray⟩] := by
  unfold bsOf
  rw [List.take_add_one, h]
  simp
end Go.Proofs.YtdeecjbebkideaaDoor
