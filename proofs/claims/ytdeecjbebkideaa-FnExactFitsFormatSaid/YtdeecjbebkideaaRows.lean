/-
  No cell of these rows narrows 'for every input' (looked for: loops, veiled, ifaces, maps, wideKeys, modest, calm, conditions, laid).
  DERIVED. THE GIVEN ROWS OF THIS SEAT. 5 by the template 'for every input the law returns true; each argument reads behind the call as it read before'; 0 by the template 'total and deterministic' (their statements: YtdeecjbebkideaaTotals.lean).
  GIVEN WITH THE SEED: the statements are not yours to turn. If you find one false, say at which input.
  Laid BY PROGRAM, IN A SANDBOX (cutbox-rows.mjs): the forced cells as the released guide's own fill.sh prints them over the translation 82c60aebbd364eda… (all of the seat's roots in one cut). By AI agents, Wed Nov 11 2026. No macro, syntax, notation, axiom, sorry.
-/
import Derived.Test.YtdeecjbebkideaaChecked
import GoSem.Claim
import GoSem.ClaimJoined
import GoSem.ClaimMapViews
import Derived.JoinedTies
import Derived.KernelRfl
namespace Go.Proofs.Ytdeecjbebkideaa
/- THE CELL 'sum', in the pinned program and in every row, IS THE sha256 OF THE DUMP (.gsa) THAT YtdeecjbebkideaaProg.lean LOADS. Nothing in Lean hashes anything: it is a label: what it is worth is what the hold of that sum in a sandbox is worth. -/
noncomputable def Try.pinned : Pinned := { name := "ytdeecjbebkideaa", sum := "82c60aebbd364edabca7a6905fa08fe9082454838b1a9b3a93c8f32306602b61", checked := Try.checked }
namespace Rows
def none {H : Type} : Left H := { results := [], args := [] }

/-- 'laws.FnExactIsThere': WHATEVER THE INPUT: true; the input reads as it did. -/
def fnExactIsThereSpec : ChangeSpec := { name := "fnExactIsThere", fn := fun _ => fun
  | [d1, d2, d3] => { results := [.lit (.bool true)], args := [d1, d2, d3] }
  | _ => none }
def fnExactIsThereRow : OpenClaim := { program := "ytdeecjbebkideaa", sum := "82c60aebbd364edabca7a6905fa08fe9082454838b1a9b3a93c8f32306602b61", func := "loop.example/g03000/laws.FnExactIsThere", spec := "fnExactIsThere", apart := false }
def FnExactIsThereSaid : Prop := fnExactIsThereRow.holds Try.pinned (OpenSpec.ofChange fnExactIsThereSpec)

/-- ITS FALSE NEIGHBOUR: 'it returns false'. Refute it at one input. -/
def fnExactIsThereWrong : ChangeSpec := { name := "fnExactIsThere", fn := fun _ => fun
  | [d1, d2, d3] => { results := [.lit (.bool false)], args := [d1, d2, d3] }
  | _ => none }
def FnExactIsThereWrongFalsely : Prop := fnExactIsThereRow.holds Try.pinned (OpenSpec.ofChange fnExactIsThereWrong)

/-- 'laws.FnExactFitsField': WHATEVER THE INPUT: true; the input reads as it did. -/
def fnExactFitsFieldSpec : ChangeSpec := { name := "fnExactFitsField", fn := fun _ => fun
  | [d1, d2] => { results := [.lit (.bool true)], args := [d1, d2] }
  | _ => none }
def fnExactFitsFieldRow : OpenClaim := { program := "ytdeecjbebkideaa", sum := "82c60aebbd364edabca7a6905fa08fe9082454838b1a9b3a93c8f32306602b61", func := "loop.example/g03000/laws.FnExactFitsField", spec := "fnExactFitsField", apart := false }
def FnExactFitsFieldSaid : Prop := fnExactFitsFieldRow.holds Try.pinned (OpenSpec.ofChange fnExactFitsFieldSpec)

/-- ITS FALSE NEIGHBOUR: 'it returns false'. Refute it at one input. -/
def fnExactFitsFieldWrong : ChangeSpec := { name := "fnExactFitsField", fn := fun _ => fun
  | [d1, d2] => { results := [.lit (.bool false)], args := [d1, d2] }
  | _ => none }
def FnExactFitsFieldWrongFalsely : Prop := fnExactFitsFieldRow.holds Try.pinned (OpenSpec.ofChange fnExactFitsFieldWrong)

/-- 'laws.FnExactFitsFormat': WHATEVER THE INPUT: true; the input reads as it did. -/
def fnExactFitsFormatSpec : ChangeSpec := { name := "fnExactFitsFormat", fn := fun _ => fun
  | [d1, d2] => { results := [.lit (.bool true)], args := [d1, d2] }
  | _ => none }
def fnExactFitsFormatRow : OpenClaim := { program := "ytdeecjbebkideaa", sum := "82c60aebbd364edabca7a6905fa08fe9082454838b1a9b3a93c8f32306602b61", func := "loop.example/g03000/laws.FnExactFitsFormat", spec := "fnExactFitsFormat", unfollowed := true, recurses := true, apart := false }
def FnExactFitsFormatSaid : Prop := fnExactFitsFormatRow.holds Try.pinned (OpenSpec.ofChange fnExactFitsFormatSpec)

/-- ITS FALSE NEIGHBOUR: 'it returns false'. Refute it at one input. -/
def fnExactFitsFormatWrong : ChangeSpec := { name := "fnExactFitsFormat", fn := fun _ => fun
  | [d1, d2] => { results := [.lit (.bool false)], args := [d1, d2] }
  | _ => none }
def FnExactFitsFormatWrongFalsely : Prop := fnExactFitsFormatRow.holds Try.pinned (OpenSpec.ofChange fnExactFitsFormatWrong)

/-- 'laws.FnExactEqualMessages': WHATEVER THE INPUT: true; the input reads as it did. -/
def fnExactEqualMessagesSpec : ChangeSpec := { name := "fnExactEqualMessages", fn := fun _ => fun
  | [d1, d2] => { results := [.lit (.bool true)], args := [d1, d2] }
  | _ => none }
def fnExactEqualMessagesRow : OpenClaim := { program := "ytdeecjbebkideaa", sum := "82c60aebbd364edabca7a6905fa08fe9082454838b1a9b3a93c8f32306602b61", func := "loop.example/g03000/laws.FnExactEqualMessages", spec := "fnExactEqualMessages", unfollowed := true, recurses := true, apart := false }
def FnExactEqualMessagesSaid : Prop := fnExactEqualMessagesRow.holds Try.pinned (OpenSpec.ofChange fnExactEqualMessagesSpec)

/-- ITS FALSE NEIGHBOUR: 'it returns false'. Refute it at one input. -/
def fnExactEqualMessagesWrong : ChangeSpec := { name := "fnExactEqualMessages", fn := fun _ => fun
  | [d1, d2] => { results := [.lit (.bool false)], args := [d1, d2] }
  | _ => none }
def FnExactEqualMessagesWrongFalsely : Prop := fnExactEqualMessagesRow.holds Try.pinned (OpenSpec.ofChange fnExactEqualMessagesWrong)

/-- 'laws.FnExactThereCount': WHATEVER THE INPUT: true; the input reads as it did. -/
def fnExactThereCountSpec : ChangeSpec := { name := "fnExactThereCount", fn := fun _ => fun
  | [d1, d2] => { results := [.lit (.bool true)], args := [d1, d2] }
  | _ => none }
def fnExactThereCountRow : OpenClaim := { program := "ytdeecjbebkideaa", sum := "82c60aebbd364edabca7a6905fa08fe9082454838b1a9b3a93c8f32306602b61", func := "loop.example/g03000/laws.FnExactThereCount", spec := "fnExactThereCount", apart := false }
def FnExactThereCountSaid : Prop := fnExactThereCountRow.holds Try.pinned (OpenSpec.ofChange fnExactThereCountSpec)

/-- ITS FALSE NEIGHBOUR: 'it returns false'. Refute it at one input. -/
def fnExactThereCountWrong : ChangeSpec := { name := "fnExactThereCount", fn := fun _ => fun
  | [d1, d2] => { results := [.lit (.bool false)], args := [d1, d2] }
  | _ => none }
def FnExactThereCountWrongFalsely : Prop := fnExactThereCountRow.holds Try.pinned (OpenSpec.ofChange fnExactThereCountWrong)

/- THE SECOND FORM. 'bulk': how many values and letters a reading holds, each counted each time it is reached (what is shared counts as often as it is met; a slice's spare places count too). A statement '..UptoSaid' is the law's where the arguments, and the package variables that the reading takes, are together of bulk at most 1048576: NARROWER than '..Said'. Prove '..Said' where nothing that the law and all that it calls make is longer than what came in: it says more and counts as full. Else prove '..UptoSaid'. A law counts once. -/
mutual
def uptoBulk {H : Type} : DataW H → Nat
  | .lit (.string bytes) => bytes.length + 1
  | .lit _ => 1
  | .nil => 1
  | .ptr d => uptoBulk d + 1
  | .slice elems spare => uptoBulkAll elems + uptoBulkAll spare + 1
  | .agg parts => uptoBulkAll parts + 1
  | .iface _ d => uptoBulk d + 1
  | .map entries => uptoBulkEntries entries + 1
  | .held _ => 1
def uptoBulkAll {H : Type} : List (DataW H) → Nat
  | [] => 0
  | d :: r => uptoBulk d + uptoBulkAll r
def uptoBulkEntries {H : Type} : List (Lit × DataW H) → Nat
  | [] => 0
  | x :: r => uptoBulkEntry x + uptoBulkEntries r
def uptoBulkEntry {H : Type} : Lit × DataW H → Nat
  | (.string bytes, d) => bytes.length + uptoBulk d + 1
  | (_, d) => uptoBulk d + 1
 end
def uptoSmall : (H : Type) → List (DataW H) → Bool := fun _ ds => decide (uptoBulkAll ds ≤ 1048576)
def OpenSpec.upto (s : _root_.Go.ChangeSpec) : _root_.Go.OpenSpec := { _root_.Go.OpenSpec.ofChange s with cond := some uptoSmall }

/-- 'laws.FnExactIsThere', WHERE WHAT IT READS IS OF BULK AT MOST 1048576: true; the input reads as it did. -/
def fnExactIsThereUptoRow : OpenClaim := { program := "ytdeecjbebkideaa", sum := "82c60aebbd364edabca7a6905fa08fe9082454838b1a9b3a93c8f32306602b61", func := "loop.example/g03000/laws.FnExactIsThere", spec := "fnExactIsThere", apart := false, narrowed := true }
def FnExactIsThereUptoSaid : Prop := fnExactIsThereUptoRow.holds Try.pinned (OpenSpec.upto fnExactIsThereSpec)

/-- 'laws.FnExactFitsField', WHERE WHAT IT READS IS OF BULK AT MOST 1048576: true; the input reads as it did. -/
def fnExactFitsFieldUptoRow : OpenClaim := { program := "ytdeecjbebkideaa", sum := "82c60aebbd364edabca7a6905fa08fe9082454838b1a9b3a93c8f32306602b61", func := "loop.example/g03000/laws.FnExactFitsField", spec := "fnExactFitsField", apart := false, narrowed := true }
def FnExactFitsFieldUptoSaid : Prop := fnExactFitsFieldUptoRow.holds Try.pinned (OpenSpec.upto fnExactFitsFieldSpec)

/-- 'laws.FnExactFitsFormat', WHERE WHAT IT READS IS OF BULK AT MOST 1048576: true; the input reads as it did. -/
def fnExactFitsFormatUptoRow : OpenClaim := { program := "ytdeecjbebkideaa", sum := "82c60aebbd364edabca7a6905fa08fe9082454838b1a9b3a93c8f32306602b61", func := "loop.example/g03000/laws.FnExactFitsFormat", spec := "fnExactFitsFormat", unfollowed := true, recurses := true, apart := false, narrowed := true }
def FnExactFitsFormatUptoSaid : Prop := fnExactFitsFormatUptoRow.holds Try.pinned (OpenSpec.upto fnExactFitsFormatSpec)

/-- 'laws.FnExactEqualMessages', WHERE WHAT IT READS IS OF BULK AT MOST 1048576: true; the input reads as it did. -/
def fnExactEqualMessagesUptoRow : OpenClaim := { program := "ytdeecjbebkideaa", sum := "82c60aebbd364edabca7a6905fa08fe9082454838b1a9b3a93c8f32306602b61", func := "loop.example/g03000/laws.FnExactEqualMessages", spec := "fnExactEqualMessages", unfollowed := true, recurses := true, apart := false, narrowed := true }
def FnExactEqualMessagesUptoSaid : Prop := fnExactEqualMessagesUptoRow.holds Try.pinned (OpenSpec.upto fnExactEqualMessagesSpec)

/-- 'laws.FnExactThereCount', WHERE WHAT IT READS IS OF BULK AT MOST 1048576: true; the input reads as it did. -/
def fnExactThereCountUptoRow : OpenClaim := { program := "ytdeecjbebkideaa", sum := "82c60aebbd364edabca7a6905fa08fe9082454838b1a9b3a93c8f32306602b61", func := "loop.example/g03000/laws.FnExactThereCount", spec := "fnExactThereCount", apart := false, narrowed := true }
def FnExactThereCountUptoSaid : Prop := fnExactThereCountUptoRow.holds Try.pinned (OpenSpec.upto fnExactThereCountSpec)

end Rows
end Go.Proofs.Ytdeecjbebkideaa
