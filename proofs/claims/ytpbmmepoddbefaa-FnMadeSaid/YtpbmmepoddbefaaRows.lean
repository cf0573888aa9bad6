/-
  No cell of these rows narrows 'for every input' (looked for: loops, veiled, ifaces, maps, wideKeys, modest, calm, conditions, laid).
  DERIVED. THE GIVEN ROWS OF THIS SEAT. 6 by the template 'for every input the law returns true; each argument reads behind the call as it read before'; 0 by the template 'total and deterministic' (their statements: YtpbmmepoddbefaaTotals.lean).
  GIVEN WITH THE SEED: the statements are not yours to turn. If you find one false, say at which input.
  Laid BY PROGRAM, IN A SANDBOX (cutbox-rows.mjs): the forced cells as the released guide's own fill.sh prints them over the translation e049cd7887470571… (all of the seat's roots in one cut). By AI agents, Wed Nov 11 2026. No macro, syntax, notation, axiom, sorry.
-/
import Derived.Test.YtpbmmepoddbefaaChecked
import GoSem.Claim
import GoSem.ClaimJoined
import GoSem.ClaimMapViews
import Derived.JoinedTies
import Derived.KernelRfl
namespace Go.Proofs.Ytpbmmepoddbefaa
/- THE CELL 'sum', in the pinned program and in every row, IS THE sha256 OF THE DUMP (.gsa) THAT YtpbmmepoddbefaaProg.lean LOADS. Nothing in Lean hashes anything: it is a label: what it is worth is what the hold of that sum in a sandbox is worth. -/
noncomputable def Try.pinned : Pinned := { name := "ytpbmmepoddbefaa", sum := "e049cd7887470571b265e6a2ef57ab3777c321c31b7d75b32d7b9e4fae463fc0", checked := Try.checked }
namespace Rows
def none {H : Type} : Left H := { results := [], args := [] }

/-- 'laws.FnMade': WHATEVER THE INPUT: true; the input reads as it did. -/
def fnMadeSpec : ChangeSpec := { name := "fnMade", fn := fun _ => fun
  | [d] => { results := [.lit (.bool true)], args := [d] }
  | _ => none }
def fnMadeRow : OpenClaim := { program := "ytpbmmepoddbefaa", sum := "e049cd7887470571b265e6a2ef57ab3777c321c31b7d75b32d7b9e4fae463fc0", func := "loop.example/g03000/laws.FnMade", spec := "fnMade", unfollowed := true, recurses := true, apart := false }
def FnMadeSaid : Prop := fnMadeRow.holds Try.pinned (OpenSpec.ofChange fnMadeSpec)

/-- ITS FALSE NEIGHBOUR: 'it returns false'. Refute it at one input. -/
def fnMadeWrong : ChangeSpec := { name := "fnMade", fn := fun _ => fun
  | [d] => { results := [.lit (.bool false)], args := [d] }
  | _ => none }
def FnMadeWrongFalsely : Prop := fnMadeRow.holds Try.pinned (OpenSpec.ofChange fnMadeWrong)

/-- 'laws.FnExactPickOf': WHATEVER THE INPUT: true; the input reads as it did. -/
def fnExactPickOfSpec : ChangeSpec := { name := "fnExactPickOf", fn := fun _ => fun
  | [d1, d2, d3] => { results := [.lit (.bool true)], args := [d1, d2, d3] }
  | _ => none }
def fnExactPickOfRow : OpenClaim := { program := "ytpbmmepoddbefaa", sum := "e049cd7887470571b265e6a2ef57ab3777c321c31b7d75b32d7b9e4fae463fc0", func := "loop.example/g03000/laws.FnExactPickOf", spec := "fnExactPickOf", apart := false }
def FnExactPickOfSaid : Prop := fnExactPickOfRow.holds Try.pinned (OpenSpec.ofChange fnExactPickOfSpec)

/-- ITS FALSE NEIGHBOUR: 'it returns false'. Refute it at one input. -/
def fnExactPickOfWrong : ChangeSpec := { name := "fnExactPickOf", fn := fun _ => fun
  | [d1, d2, d3] => { results := [.lit (.bool false)], args := [d1, d2, d3] }
  | _ => none }
def FnExactPickOfWrongFalsely : Prop := fnExactPickOfRow.holds Try.pinned (OpenSpec.ofChange fnExactPickOfWrong)

/-- 'laws.FnExactMakeMessage': WHATEVER THE INPUT: true; the input reads as it did. -/
def fnExactMakeMessageSpec : ChangeSpec := { name := "fnExactMakeMessage", fn := fun _ => fun
  | [d1, d2] => { results := [.lit (.bool true)], args := [d1, d2] }
  | _ => none }
def fnExactMakeMessageRow : OpenClaim := { program := "ytpbmmepoddbefaa", sum := "e049cd7887470571b265e6a2ef57ab3777c321c31b7d75b32d7b9e4fae463fc0", func := "loop.example/g03000/laws.FnExactMakeMessage", spec := "fnExactMakeMessage", unfollowed := true, recurses := true, apart := false }
def FnExactMakeMessageSaid : Prop := fnExactMakeMessageRow.holds Try.pinned (OpenSpec.ofChange fnExactMakeMessageSpec)

/-- ITS FALSE NEIGHBOUR: 'it returns false'. Refute it at one input. -/
def fnExactMakeMessageWrong : ChangeSpec := { name := "fnExactMakeMessage", fn := fun _ => fun
  | [d1, d2] => { results := [.lit (.bool false)], args := [d1, d2] }
  | _ => none }
def FnExactMakeMessageWrongFalsely : Prop := fnExactMakeMessageRow.holds Try.pinned (OpenSpec.ofChange fnExactMakeMessageWrong)

/-- 'laws.FnExactCountMessages': WHATEVER THE INPUT: true; the input reads as it did. -/
def fnExactCountMessagesSpec : ChangeSpec := { name := "fnExactCountMessages", fn := fun _ => fun
  | [d1, d2] => { results := [.lit (.bool true)], args := [d1, d2] }
  | _ => none }
def fnExactCountMessagesRow : OpenClaim := { program := "ytpbmmepoddbefaa", sum := "e049cd7887470571b265e6a2ef57ab3777c321c31b7d75b32d7b9e4fae463fc0", func := "loop.example/g03000/laws.FnExactCountMessages", spec := "fnExactCountMessages", unfollowed := true, recurses := true, apart := false }
def FnExactCountMessagesSaid : Prop := fnExactCountMessagesRow.holds Try.pinned (OpenSpec.ofChange fnExactCountMessagesSpec)

/-- ITS FALSE NEIGHBOUR: 'it returns false'. Refute it at one input. -/
def fnExactCountMessagesWrong : ChangeSpec := { name := "fnExactCountMessages", fn := fun _ => fun
  | [d1, d2] => { results := [.lit (.bool false)], args := [d1, d2] }
  | _ => none }
def FnExactCountMessagesWrongFalsely : Prop := fnExactCountMessagesRow.holds Try.pinned (OpenSpec.ofChange fnExactCountMessagesWrong)

/-- 'laws.FnExactMakeBytes': WHATEVER THE INPUT: true; the input reads as it did. -/
def fnExactMakeBytesSpec : ChangeSpec := { name := "fnExactMakeBytes", fn := fun _ => fun
  | [d1, d2] => { results := [.lit (.bool true)], args := [d1, d2] }
  | _ => none }
def fnExactMakeBytesRow : OpenClaim := { program := "ytpbmmepoddbefaa", sum := "e049cd7887470571b265e6a2ef57ab3777c321c31b7d75b32d7b9e4fae463fc0", func := "loop.example/g03000/laws.FnExactMakeBytes", spec := "fnExactMakeBytes", unfollowed := true, recurses := true, apart := false }
def FnExactMakeBytesSaid : Prop := fnExactMakeBytesRow.holds Try.pinned (OpenSpec.ofChange fnExactMakeBytesSpec)

/-- ITS FALSE NEIGHBOUR: 'it returns false'. Refute it at one input. -/
def fnExactMakeBytesWrong : ChangeSpec := { name := "fnExactMakeBytes", fn := fun _ => fun
  | [d1, d2] => { results := [.lit (.bool false)], args := [d1, d2] }
  | _ => none }
def FnExactMakeBytesWrongFalsely : Prop := fnExactMakeBytesRow.holds Try.pinned (OpenSpec.ofChange fnExactMakeBytesWrong)

/-- 'laws.FnExactSpoilBytes': WHATEVER THE INPUT: true; the input reads as it did. -/
def fnExactSpoilBytesSpec : ChangeSpec := { name := "fnExactSpoilBytes", fn := fun _ => fun
  | [d1, d2] => { results := [.lit (.bool true)], args := [d1, d2] }
  | _ => none }
def fnExactSpoilBytesRow : OpenClaim := { program := "ytpbmmepoddbefaa", sum := "e049cd7887470571b265e6a2ef57ab3777c321c31b7d75b32d7b9e4fae463fc0", func := "loop.example/g03000/laws.FnExactSpoilBytes", spec := "fnExactSpoilBytes", apart := false }
def FnExactSpoilBytesSaid : Prop := fnExactSpoilBytesRow.holds Try.pinned (OpenSpec.ofChange fnExactSpoilBytesSpec)

/-- ITS FALSE NEIGHBOUR: 'it returns false'. Refute it at one input. -/
def fnExactSpoilBytesWrong : ChangeSpec := { name := "fnExactSpoilBytes", fn := fun _ => fun
  | [d1, d2] => { results := [.lit (.bool false)], args := [d1, d2] }
  | _ => none }
def FnExactSpoilBytesWrongFalsely : Prop := fnExactSpoilBytesRow.holds Try.pinned (OpenSpec.ofChange fnExactSpoilBytesWrong)

/- THE SECOND FORM. 'bulk': how many values and letters a reading holds, each counted each time it is reached (what is shared counts as often as it is met; a slice's spare places count too). A statement '..UptoSaid' is the law's where the arguments, and the package variables that the reading takes, are together of bulk at most 1048576: NARROWER than '..Said'. Prove '..Said' where nothing that the law and all that it calls make is longer than what came in: it says more and counts as full. Else prove '..UptoSaid'. A law counts once. -/
mutual
def uptoBulk {H : Type} : DataW H → Nat
  | .lit (.string bytes) => bytes.length + 1
  | .lit _ => 1
  | .nil => 1
  | .ptr d => uptoBulk d + 1
  | .slice elems spare => uptoBulkAll elems + uptoBulkAll spare + 1
  | .agg parts => uptoBulkAll parts + 1
  | .iface _ d => uptoBulk d + 1
  | .map entries => uptoBulkEntries entries + 1
  | .held _ => 1
def uptoBulkAll {H : Type} : List (DataW H) → Nat
  | [] => 0
  | d :: r => uptoBulk d + uptoBulkAll r
def uptoBulkEntries {H : Type} : List (Lit × DataW H) → Nat
  | [] => 0
  | x :: r => uptoBulkEntry x + uptoBulkEntries r
def uptoBulkEntry {H : Type} : Lit × DataW H → Nat
  | (.string bytes, d) => bytes.length + uptoBulk d + 1
  | (_, d) => uptoBulk d + 1
 end
def uptoSmall : (H : Type) → List (DataW H) → Bool := fun _ ds => decide (uptoBulkAll ds ≤ 1048576)
def OpenSpec.upto (s : _root_.Go.ChangeSpec) : _root_.Go.OpenSpec := { _root_.Go.OpenSpec.ofChange s with cond := some uptoSmall }

/-- 'laws.FnMade', WHERE WHAT IT READS IS OF BULK AT MOST 1048576: true; the input reads as it did. -/
def fnMadeUptoRow : OpenClaim := { program := "ytpbmmepoddbefaa", sum := "e049cd7887470571b265e6a2ef57ab3777c321c31b7d75b32d7b9e4fae463fc0", func := "loop.example/g03000/laws.FnMade", spec := "fnMade", unfollowed := true, recurses := true, apart := false, narrowed := true }
def FnMadeUptoSaid : Prop := fnMadeUptoRow.holds Try.pinned (OpenSpec.upto fnMadeSpec)

/-- 'laws.FnExactPickOf', WHERE WHAT IT READS IS OF BULK AT MOST 1048576: true; the input reads as it did. -/
def fnExactPickOfUptoRow : OpenClaim := { program := "ytpbmmepoddbefaa", sum := "e049cd7887470571b265e6a2ef57ab3777c321c31b7d75b32d7b9e4fae463fc0", func := "loop.example/g03000/laws.FnExactPickOf", spec := "fnExactPickOf", apart := false, narrowed := true }
def FnExactPickOfUptoSaid : Prop := fnExactPickOfUptoRow.holds Try.pinned (OpenSpec.upto fnExactPickOfSpec)

/-- 'laws.FnExactMakeMessage', WHERE WHAT IT READS IS OF BULK AT MOST 1048576: true; the input reads as it did. -/
def fnExactMakeMessageUptoRow : OpenClaim := { program := "ytpbmmepoddbefaa", sum := "e049cd7887470571b265e6a2ef57ab3777c321c31b7d75b32d7b9e4fae463fc0", func := "loop.example/g03000/laws.FnExactMakeMessage", spec := "fnExactMakeMessage", unfollowed := true, recurses := true, apart := false, narrowed := true }
def FnExactMakeMessageUptoSaid : Prop := fnExactMakeMessageUptoRow.holds Try.pinned (OpenSpec.upto fnExactMakeMessageSpec)

/-- 'laws.FnExactCountMessages', WHERE WHAT IT READS IS OF BULK AT MOST 1048576: true; the input reads as it did. -/
def fnExactCountMessagesUptoRow : OpenClaim := { program := "ytpbmmepoddbefaa", sum := "e049cd7887470571b265e6a2ef57ab3777c321c31b7d75b32d7b9e4fae463fc0", func := "loop.example/g03000/laws.FnExactCountMessages", spec := "fnExactCountMessages", unfollowed := true, recurses := true, apart := false, narrowed := true }
def FnExactCountMessagesUptoSaid : Prop := fnExactCountMessagesUptoRow.holds Try.pinned (OpenSpec.upto fnExactCountMessagesSpec)

/-- 'laws.FnExactMakeBytes', WHERE WHAT IT READS IS OF BULK AT MOST 1048576: true; the input reads as it did. -/
def fnExactMakeBytesUptoRow : OpenClaim := { program := "ytpbmmepoddbefaa", sum := "e049cd7887470571b265e6a2ef57ab3777c321c31b7d75b32d7b9e4fae463fc0", func := "loop.example/g03000/laws.FnExactMakeBytes", spec := "fnExactMakeBytes", unfollowed := true, recurses := true, apart := false, narrowed := true }
def FnExactMakeBytesUptoSaid : Prop := fnExactMakeBytesUptoRow.holds Try.pinned (OpenSpec.upto fnExactMakeBytesSpec)

/-- 'laws.FnExactSpoilBytes', WHERE WHAT IT READS IS OF BULK AT MOST 1048576: true; the input reads as it did. -/
def fnExactSpoilBytesUptoRow : OpenClaim := { program := "ytpbmmepoddbefaa", sum := "e049cd7887470571b265e6a2ef57ab3777c321c31b7d75b32d7b9e4fae463fc0", func := "loop.example/g03000/laws.FnExactSpoilBytes", spec := "fnExactSpoilBytes", apart := false, narrowed := true }
def FnExactSpoilBytesUptoSaid : Prop := fnExactSpoilBytesUptoRow.holds Try.pinned (OpenSpec.upto fnExactSpoilBytesSpec)

end Rows
end Go.Proofs.Ytpbmmepoddbefaa
