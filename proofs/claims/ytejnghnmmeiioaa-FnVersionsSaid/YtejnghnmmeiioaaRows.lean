/-
  No cell of these rows narrows 'for every input' (looked for: loops, veiled, ifaces, maps, wideKeys, modest, calm, conditions, laid).
  DERIVED. THE GIVEN ROWS OF THIS SEAT. 7 by the template 'for every input the law returns true; each argument reads behind the call as it read before'; 0 by the template 'total and deterministic' (their statements: YtejnghnmmeiioaaTotals.lean).
  GIVEN WITH THE SEED: the statements are not yours to turn. If you find one false, say at which input.
  Laid BY PROGRAM, IN A SANDBOX (cutbox-rows.mjs): the forced cells as the released guide's own fill.sh prints them over the translation 474be812b14b7f0a… (all of the seat's roots in one cut). By AI agents, Wed Nov 11 2026. No macro, syntax, notation, axiom, sorry.
-/
import Derived.Test.YtejnghnmmeiioaaChecked
import GoSem.Claim
import GoSem.ClaimJoined
import GoSem.ClaimMapViews
import Derived.JoinedTies
import Derived.KernelRfl
namespace Go.Proofs.Ytejnghnmmeiioaa
/- THE CELL 'sum', in the pinned program and in every row, IS THE sha256 OF THE DUMP (.gsa) THAT YtejnghnmmeiioaaProg.lean LOADS. Nothing in Lean hashes anything: it is a label: what it is worth is what the hold of that sum in a sandbox is worth. -/
noncomputable def Try.pinned : Pinned := { name := "ytejnghnmmeiioaa", sum := "474be812b14b7f0a65c16cad6ecbf56ed76681073d02a073105b2102fb2428ae", checked := Try.checked }
namespace Rows
def none {H : Type} : Left H := { results := [], args := [] }

/-- 'laws.FnVersions': WHATEVER THE INPUT: true; the input reads as it did. -/
def fnVersionsSpec : ChangeSpec := { name := "fnVersions", fn := fun _ => fun
  | [d] => { results := [.lit (.bool true)], args := [d] }
  | _ => none }
def fnVersionsRow : OpenClaim := { program := "ytejnghnmmeiioaa", sum := "474be812b14b7f0a65c16cad6ecbf56ed76681073d02a073105b2102fb2428ae", func := "loop.example/g03000/laws.FnVersions", spec := "fnVersions", unfollowed := true, recurses := true, apart := false }
def FnVersionsSaid : Prop := fnVersionsRow.holds Try.pinned (OpenSpec.ofChange fnVersionsSpec)

/-- ITS FALSE NEIGHBOUR: 'it returns false'. Refute it at one input. -/
def fnVersionsWrong : ChangeSpec := { name := "fnVersions", fn := fun _ => fun
  | [d] => { results := [.lit (.bool false)], args := [d] }
  | _ => none }
def FnVersionsWrongFalsely : Prop := fnVersionsRow.holds Try.pinned (OpenSpec.ofChange fnVersionsWrong)

/-- 'laws.FnExactAreVersions': WHATEVER THE INPUT: true; the input reads as it did. -/
def fnExactAreVersionsSpec : ChangeSpec := { name := "fnExactAreVersions", fn := fun _ => fun
  | [d] => { results := [.lit (.bool true)], args := [d] }
  | _ => none }
def fnExactAreVersionsRow : OpenClaim := { program := "ytejnghnmmeiioaa", sum := "474be812b14b7f0a65c16cad6ecbf56ed76681073d02a073105b2102fb2428ae", func := "loop.example/g03000/laws.FnExactAreVersions", spec := "fnExactAreVersions", apart := false }
def FnExactAreVersionsSaid : Prop := fnExactAreVersionsRow.holds Try.pinned (OpenSpec.ofChange fnExactAreVersionsSpec)

/-- ITS FALSE NEIGHBOUR: 'it returns false'. Refute it at one input. -/
def fnExactAreVersionsWrong : ChangeSpec := { name := "fnExactAreVersions", fn := fun _ => fun
  | [d] => { results := [.lit (.bool false)], args := [d] }
  | _ => none }
def FnExactAreVersionsWrongFalsely : Prop := fnExactAreVersionsRow.holds Try.pinned (OpenSpec.ofChange fnExactAreVersionsWrong)

/-- 'laws.FnExactBestCommon': WHATEVER THE INPUT: true; the input reads as it did. -/
def fnExactBestCommonSpec : ChangeSpec := { name := "fnExactBestCommon", fn := fun _ => fun
  | [d1, d2] => { results := [.lit (.bool true)], args := [d1, d2] }
  | _ => none }
def fnExactBestCommonRow : OpenClaim := { program := "ytejnghnmmeiioaa", sum := "474be812b14b7f0a65c16cad6ecbf56ed76681073d02a073105b2102fb2428ae", func := "loop.example/g03000/laws.FnExactBestCommon", spec := "fnExactBestCommon", apart := false }
def FnExactBestCommonSaid : Prop := fnExactBestCommonRow.holds Try.pinned (OpenSpec.ofChange fnExactBestCommonSpec)

/-- ITS FALSE NEIGHBOUR: 'it returns false'. Refute it at one input. -/
def fnExactBestCommonWrong : ChangeSpec := { name := "fnExactBestCommon", fn := fun _ => fun
  | [d1, d2] => { results := [.lit (.bool false)], args := [d1, d2] }
  | _ => none }
def FnExactBestCommonWrongFalsely : Prop := fnExactBestCommonRow.holds Try.pinned (OpenSpec.ofChange fnExactBestCommonWrong)

/-- 'laws.FnExactCommonOf': WHATEVER THE INPUT: true; the input reads as it did. -/
def fnExactCommonOfSpec : ChangeSpec := { name := "fnExactCommonOf", fn := fun _ => fun
  | [d1, d2] => { results := [.lit (.bool true)], args := [d1, d2] }
  | _ => none }
def fnExactCommonOfRow : OpenClaim := { program := "ytejnghnmmeiioaa", sum := "474be812b14b7f0a65c16cad6ecbf56ed76681073d02a073105b2102fb2428ae", func := "loop.example/g03000/laws.FnExactCommonOf", spec := "fnExactCommonOf", unfollowed := true, recurses := true, apart := false }
def FnExactCommonOfSaid : Prop := fnExactCommonOfRow.holds Try.pinned (OpenSpec.ofChange fnExactCommonOfSpec)

/-- ITS FALSE NEIGHBOUR: 'it returns false'. Refute it at one input. -/
def fnExactCommonOfWrong : ChangeSpec := { name := "fnExactCommonOf", fn := fun _ => fun
  | [d1, d2] => { results := [.lit (.bool false)], args := [d1, d2] }
  | _ => none }
def FnExactCommonOfWrongFalsely : Prop := fnExactCommonOfRow.holds Try.pinned (OpenSpec.ofChange fnExactCommonOfWrong)

/-- 'laws.FnExactAddVersion': WHATEVER THE INPUT: true; the input reads as it did. -/
def fnExactAddVersionSpec : ChangeSpec := { name := "fnExactAddVersion", fn := fun _ => fun
  | [d1, d2] => { results := [.lit (.bool true)], args := [d1, d2] }
  | _ => none }
def fnExactAddVersionRow : OpenClaim := { program := "ytejnghnmmeiioaa", sum := "474be812b14b7f0a65c16cad6ecbf56ed76681073d02a073105b2102fb2428ae", func := "loop.example/g03000/laws.FnExactAddVersion", spec := "fnExactAddVersion", apart := false }
def FnExactAddVersionSaid : Prop := fnExactAddVersionRow.holds Try.pinned (OpenSpec.ofChange fnExactAddVersionSpec)

/-- ITS FALSE NEIGHBOUR: 'it returns false'. Refute it at one input. -/
def fnExactAddVersionWrong : ChangeSpec := { name := "fnExactAddVersion", fn := fun _ => fun
  | [d1, d2] => { results := [.lit (.bool false)], args := [d1, d2] }
  | _ => none }
def FnExactAddVersionWrongFalsely : Prop := fnExactAddVersionRow.holds Try.pinned (OpenSpec.ofChange fnExactAddVersionWrong)

/-- 'laws.FnExactDropVersion': WHATEVER THE INPUT: true; the input reads as it did. -/
def fnExactDropVersionSpec : ChangeSpec := { name := "fnExactDropVersion", fn := fun _ => fun
  | [d1, d2] => { results := [.lit (.bool true)], args := [d1, d2] }
  | _ => none }
def fnExactDropVersionRow : OpenClaim := { program := "ytejnghnmmeiioaa", sum := "474be812b14b7f0a65c16cad6ecbf56ed76681073d02a073105b2102fb2428ae", func := "loop.example/g03000/laws.FnExactDropVersion", spec := "fnExactDropVersion", apart := false }
def FnExactDropVersionSaid : Prop := fnExactDropVersionRow.holds Try.pinned (OpenSpec.ofChange fnExactDropVersionSpec)

/-- ITS FALSE NEIGHBOUR: 'it returns false'. Refute it at one input. -/
def fnExactDropVersionWrong : ChangeSpec := { name := "fnExactDropVersion", fn := fun _ => fun
  | [d1, d2] => { results := [.lit (.bool false)], args := [d1, d2] }
  | _ => none }
def FnExactDropVersionWrongFalsely : Prop := fnExactDropVersionRow.holds Try.pinned (OpenSpec.ofChange fnExactDropVersionWrong)

/-- 'laws.FnExactSpansOf': WHATEVER THE INPUT: true; the input reads as it did. -/
def fnExactSpansOfSpec : ChangeSpec := { name := "fnExactSpansOf", fn := fun _ => fun
  | [d] => { results := [.lit (.bool true)], args := [d] }
  | _ => none }
def fnExactSpansOfRow : OpenClaim := { program := "ytejnghnmmeiioaa", sum := "474be812b14b7f0a65c16cad6ecbf56ed76681073d02a073105b2102fb2428ae", func := "loop.example/g03000/laws.FnExactSpansOf", spec := "fnExactSpansOf", apart := false }
def FnExactSpansOfSaid : Prop := fnExactSpansOfRow.holds Try.pinned (OpenSpec.ofChange fnExactSpansOfSpec)

/-- ITS FALSE NEIGHBOUR: 'it returns false'. Refute it at one input. -/
def fnExactSpansOfWrong : ChangeSpec := { name := "fnExactSpansOf", fn := fun _ => fun
  | [d] => { results := [.lit (.bool false)], args := [d] }
  | _ => none }
def FnExactSpansOfWrongFalsely : Prop := fnExactSpansOfRow.holds Try.pinned (OpenSpec.ofChange fnExactSpansOfWrong)

/- THE SECOND FORM. 'bulk': how many values and letters a reading holds, each counted each time it is reached (what is shared counts as often as it is met; a slice's spare places count too). A statement '..UptoSaid' is the law's where the arguments, and the package variables that the reading takes, are together of bulk at most 1048576: NARROWER than '..Said'. Prove '..Said' where nothing that the law and all that it calls make is longer than what came in: it says more and counts as full. Else prove '..UptoSaid'. A law counts once. -/
mutual
def uptoBulk {H : Type} : DataW H → Nat
  | .lit (.string bytes) => bytes.length + 1
  | .lit _ => 1
  | .nil => 1
  | .ptr d => uptoBulk d + 1
  | .slice elems spare => uptoBulkAll elems + uptoBulkAll spare + 1
  | .agg parts => uptoBulkAll parts + 1
  | .iface _ d => uptoBulk d + 1
  | .map entries => uptoBulkEntries entries + 1
  | .held _ => 1
def uptoBulkAll {H : Type} : List (DataW H) → Nat
  | [] => 0
  | d :: r => uptoBulk d + uptoBulkAll r
def uptoBulkEntries {H : Type} : List (Lit × DataW H) → Nat
  | [] => 0
  | x :: r => uptoBulkEntry x + uptoBulkEntries r
def uptoBulkEntry {H : Type} : Lit × DataW H → Nat
  | (.string bytes, d) => bytes.length + uptoBulk d + 1
  | (_, d) => uptoBulk d + 1
 end
def uptoSmall : (H : Type) → List (DataW H) → Bool := fun _ ds => decide (uptoBulkAll ds ≤ 1048576)
def OpenSpec.upto (s : _root_.Go.ChangeSpec) : _root_.Go.OpenSpec := { _root_.Go.OpenSpec.ofChange s with cond := some uptoSmall }

/-- 'laws.FnVersions', WHERE WHAT IT READS IS OF BULK AT MOST 1048576: true; the input reads as it did. -/
def fnVersionsUptoRow : OpenClaim := { program := "ytejnghnmmeiioaa", sum := "474be812b14b7f0a65c16cad6ecbf56ed76681073d02a073105b2102fb2428ae", func := "loop.example/g03000/laws.FnVersions", spec := "fnVersions", unfollowed := true, recurses := true, apart := false, narrowed := true }
def FnVersionsUptoSaid : Prop := fnVersionsUptoRow.holds Try.pinned (OpenSpec.upto fnVersionsSpec)

/-- 'laws.FnExactAreVersions', WHERE WHAT IT READS IS OF BULK AT MOST 1048576: true; the input reads as it did. -/
def fnExactAreVersionsUptoRow : OpenClaim := { program := "ytejnghnmmeiioaa", sum := "474be812b14b7f0a65c16cad6ecbf56ed76681073d02a073105b2102fb2428ae", func := "loop.example/g03000/laws.FnExactAreVersions", spec := "fnExactAreVersions", apart := false, narrowed := true }
def FnExactAreVersionsUptoSaid : Prop := fnExactAreVersionsUptoRow.holds Try.pinned (OpenSpec.upto fnExactAreVersionsSpec)

/-- 'laws.FnExactBestCommon', WHERE WHAT IT READS IS OF BULK AT MOST 1048576: true; the input reads as it did. -/
def fnExactBestCommonUptoRow : OpenClaim := { program := "ytejnghnmmeiioaa", sum := "474be812b14b7f0a65c16cad6ecbf56ed76681073d02a073105b2102fb2428ae", func := "loop.example/g03000/laws.FnExactBestCommon", spec := "fnExactBestCommon", apart := false, narrowed := true }
def FnExactBestCommonUptoSaid : Prop := fnExactBestCommonUptoRow.holds Try.pinned (OpenSpec.upto fnExactBestCommonSpec)

/-- 'laws.FnExactCommonOf', WHERE WHAT IT READS IS OF BULK AT MOST 1048576: true; the input reads as it did. -/
def fnExactCommonOfUptoRow : OpenClaim := { program := "ytejnghnmmeiioaa", sum := "474be812b14b7f0a65c16cad6ecbf56ed76681073d02a073105b2102fb2428ae", func := "loop.example/g03000/laws.FnExactCommonOf", spec := "fnExactCommonOf", unfollowed := true, recurses := true, apart := false, narrowed := true }
def FnExactCommonOfUptoSaid : Prop := fnExactCommonOfUptoRow.holds Try.pinned (OpenSpec.upto fnExactCommonOfSpec)

/-- 'laws.FnExactAddVersion', WHERE WHAT IT READS IS OF BULK AT MOST 1048576: true; the input reads as it did. -/
def fnExactAddVersionUptoRow : OpenClaim := { program := "ytejnghnmmeiioaa", sum := "474be812b14b7f0a65c16cad6ecbf56ed76681073d02a073105b2102fb2428ae", func := "loop.example/g03000/laws.FnExactAddVersion", spec := "fnExactAddVersion", apart := false, narrowed := true }
def FnExactAddVersionUptoSaid : Prop := fnExactAddVersionUptoRow.holds Try.pinned (OpenSpec.upto fnExactAddVersionSpec)

/-- 'laws.FnExactDropVersion', WHERE WHAT IT READS IS OF BULK AT MOST 1048576: true; the input reads as it did. -/
def fnExactDropVersionUptoRow : OpenClaim := { program := "ytejnghnmmeiioaa", sum := "474be812b14b7f0a65c16cad6ecbf56ed76681073d02a073105b2102fb2428ae", func := "loop.example/g03000/laws.FnExactDropVersion", spec := "fnExactDropVersion", apart := false, narrowed := true }
def FnExactDropVersionUptoSaid : Prop := fnExactDropVersionUptoRow.holds Try.pinned (OpenSpec.upto fnExactDropVersionSpec)

/-- 'laws.FnExactSpansOf', WHERE WHAT IT READS IS OF BULK AT MOST 1048576: true; the input reads as it did. -/
def fnExactSpansOfUptoRow : OpenClaim := { program := "ytejnghnmmeiioaa", sum := "474be812b14b7f0a65c16cad6ecbf56ed76681073d02a073105b2102fb2428ae", func := "loop.example/g03000/laws.FnExactSpansOf", spec := "fnExactSpansOf", apart := false, narrowed := true }
def FnExactSpansOfUptoSaid : Prop := fnExactSpansOfUptoRow.holds Try.pinned (OpenSpec.upto fnExactSpansOfSpec)

end Rows
end Go.Proofs.Ytejnghnmmeiioaa
