/-
  No cell of these rows narrows 'for every input' (looked for: loops, veiled, ifaces, maps, wideKeys, modest, calm, conditions, laid).
  DERIVED. THE GIVEN ROWS OF THIS SEAT. 9 by the template 'for every input the law returns true; each argument reads behind the call as it read before'; 0 by the template 'total and deterministic' (their statements: YtcpnchjgklemgaaTotals.lean).
  GIVEN WITH THE SEED: the statements are not yours to turn. If you find one false, say at which input.
  Laid BY PROGRAM, IN A SANDBOX (cutbox-rows.mjs): the forced cells as the released guide's own fill.sh prints them over the translation e28b67416d3925c1… (all of the seat's roots in one cut). By AI agents, Wed Nov 11 2026. No macro, syntax, notation, axiom, sorry.
-/
import Derived.Test.YtcpnchjgklemgaaChecked
import GoSem.Claim
import GoSem.ClaimJoined
import GoSem.ClaimMapViews
import Derived.JoinedTies
import Derived.KernelRfl
namespace Go.Proofs.Ytcpnchjgklemgaa
/- THE CELL 'sum', in the pinned program and in every row, IS THE sha256 OF THE DUMP (.gsa) THAT YtcpnchjgklemgaaProg.lean LOADS. Nothing in Lean hashes anything: it is a label: what it is worth is what the hold of that sum in a sandbox is worth. -/
noncomputable def Try.pinned : Pinned := { name := "ytcpnchjgklemgaa", sum := "e28b67416d3925c17583c7ac29939c5af0755e78fb1507abaec478ee57a0377d", checked := Try.checked }
namespace Rows
def none {H : Type} : Left H := { results := [], args := [] }

/-- 'laws.FnHellos': WHATEVER THE INPUT: true; the input reads as it did. -/
def fnHellosSpec : ChangeSpec := { name := "fnHellos", fn := fun _ => fun
  | [d] => { results := [.lit (.bool true)], args := [d] }
  | _ => none }
def fnHellosRow : OpenClaim := { program := "ytcpnchjgklemgaa", sum := "e28b67416d3925c17583c7ac29939c5af0755e78fb1507abaec478ee57a0377d", func := "loop.example/g03000/laws.FnHellos", spec := "fnHellos", unfollowed := true, recurses := true, apart := false }
def FnHellosSaid : Prop := fnHellosRow.holds Try.pinned (OpenSpec.ofChange fnHellosSpec)

/-- ITS FALSE NEIGHBOUR: 'it returns false'. Refute it at one input. -/
def fnHellosWrong : ChangeSpec := { name := "fnHellos", fn := fun _ => fun
  | [d] => { results := [.lit (.bool false)], args := [d] }
  | _ => none }
def FnHellosWrongFalsely : Prop := fnHellosRow.holds Try.pinned (OpenSpec.ofChange fnHellosWrong)

/-- 'laws.FnExactIsHello': WHATEVER THE INPUT: true; the input reads as it did. -/
def fnExactIsHelloSpec : ChangeSpec := { name := "fnExactIsHello", fn := fun _ => fun
  | [d] => { results := [.lit (.bool true)], args := [d] }
  | _ => none }
def fnExactIsHelloRow : OpenClaim := { program := "ytcpnchjgklemgaa", sum := "e28b67416d3925c17583c7ac29939c5af0755e78fb1507abaec478ee57a0377d", func := "loop.example/g03000/laws.FnExactIsHello", spec := "fnExactIsHello", unfollowed := true, recurses := true, apart := false }
def FnExactIsHelloSaid : Prop := fnExactIsHelloRow.holds Try.pinned (OpenSpec.ofChange fnExactIsHelloSpec)

/-- ITS FALSE NEIGHBOUR: 'it returns false'. Refute it at one input. -/
def fnExactIsHelloWrong : ChangeSpec := { name := "fnExactIsHello", fn := fun _ => fun
  | [d] => { results := [.lit (.bool false)], args := [d] }
  | _ => none }
def FnExactIsHelloWrongFalsely : Prop := fnExactIsHelloRow.holds Try.pinned (OpenSpec.ofChange fnExactIsHelloWrong)

/-- 'laws.FnExactIsAnswer': WHATEVER THE INPUT: true; the input reads as it did. -/
def fnExactIsAnswerSpec : ChangeSpec := { name := "fnExactIsAnswer", fn := fun _ => fun
  | [d] => { results := [.lit (.bool true)], args := [d] }
  | _ => none }
def fnExactIsAnswerRow : OpenClaim := { program := "ytcpnchjgklemgaa", sum := "e28b67416d3925c17583c7ac29939c5af0755e78fb1507abaec478ee57a0377d", func := "loop.example/g03000/laws.FnExactIsAnswer", spec := "fnExactIsAnswer", unfollowed := true, recurses := true, apart := false }
def FnExactIsAnswerSaid : Prop := fnExactIsAnswerRow.holds Try.pinned (OpenSpec.ofChange fnExactIsAnswerSpec)

/-- ITS FALSE NEIGHBOUR: 'it returns false'. Refute it at one input. -/
def fnExactIsAnswerWrong : ChangeSpec := { name := "fnExactIsAnswer", fn := fun _ => fun
  | [d] => { results := [.lit (.bool false)], args := [d] }
  | _ => none }
def FnExactIsAnswerWrongFalsely : Prop := fnExactIsAnswerRow.holds Try.pinned (OpenSpec.ofChange fnExactIsAnswerWrong)

/-- 'laws.FnExactHelloBytes': WHATEVER THE INPUT: true; the input reads as it did. -/
def fnExactHelloBytesSpec : ChangeSpec := { name := "fnExactHelloBytes", fn := fun _ => fun
  | [d] => { results := [.lit (.bool true)], args := [d] }
  | _ => none }
def fnExactHelloBytesRow : OpenClaim := { program := "ytcpnchjgklemgaa", sum := "e28b67416d3925c17583c7ac29939c5af0755e78fb1507abaec478ee57a0377d", func := "loop.example/g03000/laws.FnExactHelloBytes", spec := "fnExactHelloBytes", unfollowed := true, recurses := true, apart := false }
def FnExactHelloBytesSaid : Prop := fnExactHelloBytesRow.holds Try.pinned (OpenSpec.ofChange fnExactHelloBytesSpec)

/-- ITS FALSE NEIGHBOUR: 'it returns false'. Refute it at one input. -/
def fnExactHelloBytesWrong : ChangeSpec := { name := "fnExactHelloBytes", fn := fun _ => fun
  | [d] => { results := [.lit (.bool false)], args := [d] }
  | _ => none }
def FnExactHelloBytesWrongFalsely : Prop := fnExactHelloBytesRow.holds Try.pinned (OpenSpec.ofChange fnExactHelloBytesWrong)

/-- 'laws.FnExactReadHello': WHATEVER THE INPUT: true; the input reads as it did. -/
def fnExactReadHelloSpec : ChangeSpec := { name := "fnExactReadHello", fn := fun _ => fun
  | [d] => { results := [.lit (.bool true)], args := [d] }
  | _ => none }
def fnExactReadHelloRow : OpenClaim := { program := "ytcpnchjgklemgaa", sum := "e28b67416d3925c17583c7ac29939c5af0755e78fb1507abaec478ee57a0377d", func := "loop.example/g03000/laws.FnExactReadHello", spec := "fnExactReadHello", unfollowed := true, recurses := true, apart := false }
def FnExactReadHelloSaid : Prop := fnExactReadHelloRow.holds Try.pinned (OpenSpec.ofChange fnExactReadHelloSpec)

/-- ITS FALSE NEIGHBOUR: 'it returns false'. Refute it at one input. -/
def fnExactReadHelloWrong : ChangeSpec := { name := "fnExactReadHello", fn := fun _ => fun
  | [d] => { results := [.lit (.bool false)], args := [d] }
  | _ => none }
def FnExactReadHelloWrongFalsely : Prop := fnExactReadHelloRow.holds Try.pinned (OpenSpec.ofChange fnExactReadHelloWrong)

/-- 'laws.FnExactAnswerBytes': WHATEVER THE INPUT: true; the input reads as it did. -/
def fnExactAnswerBytesSpec : ChangeSpec := { name := "fnExactAnswerBytes", fn := fun _ => fun
  | [d] => { results := [.lit (.bool true)], args := [d] }
  | _ => none }
def fnExactAnswerBytesRow : OpenClaim := { program := "ytcpnchjgklemgaa", sum := "e28b67416d3925c17583c7ac29939c5af0755e78fb1507abaec478ee57a0377d", func := "loop.example/g03000/laws.FnExactAnswerBytes", spec := "fnExactAnswerBytes", unfollowed := true, recurses := true, apart := false }
def FnExactAnswerBytesSaid : Prop := fnExactAnswerBytesRow.holds Try.pinned (OpenSpec.ofChange fnExactAnswerBytesSpec)

/-- ITS FALSE NEIGHBOUR: 'it returns false'. Refute it at one input. -/
def fnExactAnswerBytesWrong : ChangeSpec := { name := "fnExactAnswerBytes", fn := fun _ => fun
  | [d] => { results := [.lit (.bool false)], args := [d] }
  | _ => none }
def FnExactAnswerBytesWrongFalsely : Prop := fnExactAnswerBytesRow.holds Try.pinned (OpenSpec.ofChange fnExactAnswerBytesWrong)

/-- 'laws.FnExactChooseAnswer': WHATEVER THE INPUT: true; the input reads as it did. -/
def fnExactChooseAnswerSpec : ChangeSpec := { name := "fnExactChooseAnswer", fn := fun _ => fun
  | [d1, d2, d3] => { results := [.lit (.bool true)], args := [d1, d2, d3] }
  | _ => none }
def fnExactChooseAnswerRow : OpenClaim := { program := "ytcpnchjgklemgaa", sum := "e28b67416d3925c17583c7ac29939c5af0755e78fb1507abaec478ee57a0377d", func := "loop.example/g03000/laws.FnExactChooseAnswer", spec := "fnExactChooseAnswer", unfollowed := true, recurses := true, apart := false }
def FnExactChooseAnswerSaid : Prop := fnExactChooseAnswerRow.holds Try.pinned (OpenSpec.ofChange fnExactChooseAnswerSpec)

/-- ITS FALSE NEIGHBOUR: 'it returns false'. Refute it at one input. -/
def fnExactChooseAnswerWrong : ChangeSpec := { name := "fnExactChooseAnswer", fn := fun _ => fun
  | [d1, d2, d3] => { results := [.lit (.bool false)], args := [d1, d2, d3] }
  | _ => none }
def FnExactChooseAnswerWrongFalsely : Prop := fnExactChooseAnswerRow.holds Try.pinned (OpenSpec.ofChange fnExactChooseAnswerWrong)

/-- 'laws.FnExactEqualHellos': WHATEVER THE INPUT: true; the input reads as it did. -/
def fnExactEqualHellosSpec : ChangeSpec := { name := "fnExactEqualHellos", fn := fun _ => fun
  | [d1, d2] => { results := [.lit (.bool true)], args := [d1, d2] }
  | _ => none }
def fnExactEqualHellosRow : OpenClaim := { program := "ytcpnchjgklemgaa", sum := "e28b67416d3925c17583c7ac29939c5af0755e78fb1507abaec478ee57a0377d", func := "loop.example/g03000/laws.FnExactEqualHellos", spec := "fnExactEqualHellos", unfollowed := true, recurses := true, apart := false }
def FnExactEqualHellosSaid : Prop := fnExactEqualHellosRow.holds Try.pinned (OpenSpec.ofChange fnExactEqualHellosSpec)

/-- ITS FALSE NEIGHBOUR: 'it returns false'. Refute it at one input. -/
def fnExactEqualHellosWrong : ChangeSpec := { name := "fnExactEqualHellos", fn := fun _ => fun
  | [d1, d2] => { results := [.lit (.bool false)], args := [d1, d2] }
  | _ => none }
def FnExactEqualHellosWrongFalsely : Prop := fnExactEqualHellosRow.holds Try.pinned (OpenSpec.ofChange fnExactEqualHellosWrong)

/-- 'laws.FnExactFitsHello': WHATEVER THE INPUT: true; the input reads as it did. -/
def fnExactFitsHelloSpec : ChangeSpec := { name := "fnExactFitsHello", fn := fun _ => fun
  | [d1, d2] => { results := [.lit (.bool true)], args := [d1, d2] }
  | _ => none }
def fnExactFitsHelloRow : OpenClaim := { program := "ytcpnchjgklemgaa", sum := "e28b67416d3925c17583c7ac29939c5af0755e78fb1507abaec478ee57a0377d", func := "loop.example/g03000/laws.FnExactFitsHello", spec := "fnExactFitsHello", unfollowed := true, recurses := true, apart := false }
def FnExactFitsHelloSaid : Prop := fnExactFitsHelloRow.holds Try.pinned (OpenSpec.ofChange fnExactFitsHelloSpec)

/-- ITS FALSE NEIGHBOUR: 'it returns false'. Refute it at one input. -/
def fnExactFitsHelloWrong : ChangeSpec := { name := "fnExactFitsHello", fn := fun _ => fun
  | [d1, d2] => { results := [.lit (.bool false)], args := [d1, d2] }
  | _ => none }
def FnExactFitsHelloWrongFalsely : Prop := fnExactFitsHelloRow.holds Try.pinned (OpenSpec.ofChange fnExactFitsHelloWrong)

/- THE SECOND FORM. 'bulk': how many values and letters a reading holds, each counted each time it is reached (what is shared counts as often as it is met; a slice's spare places count too). A statement '..UptoSaid' is the law's where the arguments, and the package variables that the reading takes, are together of bulk at most 1048576: NARROWER than '..Said'. Prove '..Said' where nothing that the law and all that it calls make is longer than what came in: it says more and counts as full. Else prove '..UptoSaid'. A law counts once. -/
mutual
def uptoBulk {H : Type} : DataW H → Nat
  | .lit (.string bytes) => bytes.length + 1
  | .lit _ => 1
  | .nil => 1
  | .ptr d => uptoBulk d + 1
  | .slice elems spare => uptoBulkAll elems + uptoBulkAll spare + 1
  | .agg parts => uptoBulkAll parts + 1
  | .iface _ d => uptoBulk d + 1
  | .map entries => uptoBulkEntries entries + 1
  | .held _ => 1
def uptoBulkAll {H : Type} : List (DataW H) → Nat
  | [] => 0
  | d :: r => uptoBulk d + uptoBulkAll r
def uptoBulkEntries {H : Type} : List (Lit × DataW H) → Nat
  | [] => 0
  | x :: r => uptoBulkEntry x + uptoBulkEntries r
def uptoBulkEntry {H : Type} : Lit × DataW H → Nat
  | (.string bytes, d) => bytes.length + uptoBulk d + 1
  | (_, d) => uptoBulk d + 1
 end
def uptoSmall : (H : Type) → List (DataW H) → Bool := fun _ ds => decide (uptoBulkAll ds ≤ 1048576)
def OpenSpec.upto (s : _root_.Go.ChangeSpec) : _root_.Go.OpenSpec := { _root_.Go.OpenSpec.ofChange s with cond := some uptoSmall }

/-- 'laws.FnHellos', WHERE WHAT IT READS IS OF BULK AT MOST 1048576: true; the input reads as it did. -/
def fnHellosUptoRow : OpenClaim := { program := "ytcpnchjgklemgaa", sum := "e28b67416d3925c17583c7ac29939c5af0755e78fb1507abaec478ee57a0377d", func := "loop.example/g03000/laws.FnHellos", spec := "fnHellos", unfollowed := true, recurses := true, apart := false, narrowed := true }
def FnHellosUptoSaid : Prop := fnHellosUptoRow.holds Try.pinned (OpenSpec.upto fnHellosSpec)

/-- 'laws.FnExactIsHello', WHERE WHAT IT READS IS OF BULK AT MOST 1048576: true; the input reads as it did. -/
def fnExactIsHelloUptoRow : OpenClaim := { program := "ytcpnchjgklemgaa", sum := "e28b67416d3925c17583c7ac29939c5af0755e78fb1507abaec478ee57a0377d", func := "loop.example/g03000/laws.FnExactIsHello", spec := "fnExactIsHello", unfollowed := true, recurses := true, apart := false, narrowed := true }
def FnExactIsHelloUptoSaid : Prop := fnExactIsHelloUptoRow.holds Try.pinned (OpenSpec.upto fnExactIsHelloSpec)

/-- 'laws.FnExactIsAnswer', WHERE WHAT IT READS IS OF BULK AT MOST 1048576: true; the input reads as it did. -/
def fnExactIsAnswerUptoRow : OpenClaim := { program := "ytcpnchjgklemgaa", sum := "e28b67416d3925c17583c7ac29939c5af0755e78fb1507abaec478ee57a0377d", func := "loop.example/g03000/laws.FnExactIsAnswer", spec := "fnExactIsAnswer", unfollowed := true, recurses := true, apart := false, narrowed := true }
def FnExactIsAnswerUptoSaid : Prop := fnExactIsAnswerUptoRow.holds Try.pinned (OpenSpec.upto fnExactIsAnswerSpec)

/-- 'laws.FnExactHelloBytes', WHERE WHAT IT READS IS OF BULK AT MOST 1048576: true; the input reads as it did. -/
def fnExactHelloBytesUptoRow : OpenClaim := { program := "ytcpnchjgklemgaa", sum := "e28b67416d3925c17583c7ac29939c5af0755e78fb1507abaec478ee57a0377d", func := "loop.example/g03000/laws.FnExactHelloBytes", spec := "fnExactHelloBytes", unfollowed := true, recurses := true, apart := false, narrowed := true }
def FnExactHelloBytesUptoSaid : Prop := fnExactHelloBytesUptoRow.holds Try.pinned (OpenSpec.upto fnExactHelloBytesSpec)

/-- 'laws.FnExactReadHello', WHERE WHAT IT READS IS OF BULK AT MOST 1048576: true; the input reads as it did. -/
def fnExactReadHelloUptoRow : OpenClaim := { program := "ytcpnchjgklemgaa", sum := "e28b67416d3925c17583c7ac29939c5af0755e78fb1507abaec478ee57a0377d", func := "loop.example/g03000/laws.FnExactReadHello", spec := "fnExactReadHello", unfollowed := true, recurses := true, apart := false, narrowed := true }
def FnExactReadHelloUptoSaid : Prop := fnExactReadHelloUptoRow.holds Try.pinned (OpenSpec.upto fnExactReadHelloSpec)

/-- 'laws.FnExactAnswerBytes', WHERE WHAT IT READS IS OF BULK AT MOST 1048576: true; the input reads as it did. -/
def fnExactAnswerBytesUptoRow : OpenClaim := { program := "ytcpnchjgklemgaa", sum := "e28b67416d3925c17583c7ac29939c5af0755e78fb1507abaec478ee57a0377d", func := "loop.example/g03000/laws.FnExactAnswerBytes", spec := "fnExactAnswerBytes", unfollowed := true, recurses := true, apart := false, narrowed := true }
def FnExactAnswerBytesUptoSaid : Prop := fnExactAnswerBytesUptoRow.holds Try.pinned (OpenSpec.upto fnExactAnswerBytesSpec)

/-- 'laws.FnExactChooseAnswer', WHERE WHAT IT READS IS OF BULK AT MOST 1048576: true; the input reads as it did. -/
def fnExactChooseAnswerUptoRow : OpenClaim := { program := "ytcpnchjgklemgaa", sum := "e28b67416d3925c17583c7ac29939c5af0755e78fb1507abaec478ee57a0377d", func := "loop.example/g03000/laws.FnExactChooseAnswer", spec := "fnExactChooseAnswer", unfollowed := true, recurses := true, apart := false, narrowed := true }
def FnExactChooseAnswerUptoSaid : Prop := fnExactChooseAnswerUptoRow.holds Try.pinned (OpenSpec.upto fnExactChooseAnswerSpec)

/-- 'laws.FnExactEqualHellos', WHERE WHAT IT READS IS OF BULK AT MOST 1048576: true; the input reads as it did. -/
def fnExactEqualHellosUptoRow : OpenClaim := { program := "ytcpnchjgklemgaa", sum := "e28b67416d3925c17583c7ac29939c5af0755e78fb1507abaec478ee57a0377d", func := "loop.example/g03000/laws.FnExactEqualHellos", spec := "fnExactEqualHellos", unfollowed := true, recurses := true, apart := false, narrowed := true }
def FnExactEqualHellosUptoSaid : Prop := fnExactEqualHellosUptoRow.holds Try.pinned (OpenSpec.upto fnExactEqualHellosSpec)

/-- 'laws.FnExactFitsHello', WHERE WHAT IT READS IS OF BULK AT MOST 1048576: true; the input reads as it did. -/
def fnExactFitsHelloUptoRow : OpenClaim := { program := "ytcpnchjgklemgaa", sum := "e28b67416d3925c17583c7ac29939c5af0755e78fb1507abaec478ee57a0377d", func := "loop.example/g03000/laws.FnExactFitsHello", spec := "fnExactFitsHello", unfollowed := true, recurses := true, apart := false, narrowed := true }
def FnExactFitsHelloUptoSaid : Prop := fnExactFitsHelloUptoRow.holds Try.pinned (OpenSpec.upto fnExactFitsHelloSpec)

end Rows
end Go.Proofs.Ytcpnchjgklemgaa
