/-
  No cell of these rows narrows 'for every input' (looked for: loops, veiled, ifaces, maps, wideKeys, modest, calm, conditions, laid).
  DERIVED. THE GIVEN ROWS OF THIS SEAT. 6 by the template 'for every input the law returns true; each argument reads behind the call as it read before'; 0 by the template 'total and deterministic' (their statements: YtjkjnhkamieljaaTotals.lean).
  GIVEN WITH THE SEED: the statements are not yours to turn. If you find one false, say at which input.
  Laid BY PROGRAM, IN A SANDBOX (cutbox-rows.mjs): the forced cells as the released guide's own fill.sh prints them over the translation c80352fbe9ff8b1b… (all of the seat's roots in one cut). By AI agents, Wed Nov 11 2026. No macro, syntax, notation, axiom, sorry.
-/
import Derived.Test.YtjkjnhkamieljaaChecked
import GoSem.Claim
import GoSem.ClaimJoined
import GoSem.ClaimMapViews
import Derived.JoinedTies
import Derived.KernelRfl
namespace Go.Proofs.Ytjkjnhkamieljaa
/- THE CELL 'sum', in the pinned program and in every row, IS THE sha256 OF THE DUMP (.gsa) THAT YtjkjnhkamieljaaProg.lean LOADS. Nothing in Lean hashes anything: it is a label: what it is worth is what the hold of that sum in a sandbox is worth. -/
noncomputable def Try.pinned : Pinned := { name := "ytjkjnhkamieljaa", sum := "c80352fbe9ff8b1b927e412b46ae201254ca4f12a4faee5d343ad5cbe964b1fa", checked := Try.checked }
namespace Rows
def none {H : Type} : Left H := { results := [], args := [] }

/-- 'laws.FnDiffers': WHATEVER THE INPUT: true; the input reads as it did. -/
def fnDiffersSpec : ChangeSpec := { name := "fnDiffers", fn := fun _ => fun
  | [d] => { results := [.lit (.bool true)], args := [d] }
  | _ => none }
def fnDiffersRow : OpenClaim := { program := "ytjkjnhkamieljaa", sum := "c80352fbe9ff8b1b927e412b46ae201254ca4f12a4faee5d343ad5cbe964b1fa", func := "loop.example/g03000/laws.FnDiffers", spec := "fnDiffers", unfollowed := true, recurses := true, apart := false }
def FnDiffersSaid : Prop := fnDiffersRow.holds Try.pinned (OpenSpec.ofChange fnDiffersSpec)

/-- ITS FALSE NEIGHBOUR: 'it returns false'. Refute it at one input. -/
def fnDiffersWrong : ChangeSpec := { name := "fnDiffers", fn := fun _ => fun
  | [d] => { results := [.lit (.bool false)], args := [d] }
  | _ => none }
def FnDiffersWrongFalsely : Prop := fnDiffersRow.holds Try.pinned (OpenSpec.ofChange fnDiffersWrong)

/-- 'laws.FnExactIsWithin': WHATEVER THE INPUT: true; the input reads as it did. -/
def fnExactIsWithinSpec : ChangeSpec := { name := "fnExactIsWithin", fn := fun _ => fun
  | [d1, d2] => { results := [.lit (.bool true)], args := [d1, d2] }
  | _ => none }
def fnExactIsWithinRow : OpenClaim := { program := "ytjkjnhkamieljaa", sum := "c80352fbe9ff8b1b927e412b46ae201254ca4f12a4faee5d343ad5cbe964b1fa", func := "loop.example/g03000/laws.FnExactIsWithin", spec := "fnExactIsWithin", unfollowed := true, recurses := true, apart := false }
def FnExactIsWithinSaid : Prop := fnExactIsWithinRow.holds Try.pinned (OpenSpec.ofChange fnExactIsWithinSpec)

/-- ITS FALSE NEIGHBOUR: 'it returns false'. Refute it at one input. -/
def fnExactIsWithinWrong : ChangeSpec := { name := "fnExactIsWithin", fn := fun _ => fun
  | [d1, d2] => { results := [.lit (.bool false)], args := [d1, d2] }
  | _ => none }
def FnExactIsWithinWrongFalsely : Prop := fnExactIsWithinRow.holds Try.pinned (OpenSpec.ofChange fnExactIsWithinWrong)

/-- 'laws.FnExactBreakOf': WHATEVER THE INPUT: true; the input reads as it did. -/
def fnExactBreakOfSpec : ChangeSpec := { name := "fnExactBreakOf", fn := fun _ => fun
  | [d1, d2] => { results := [.lit (.bool true)], args := [d1, d2] }
  | _ => none }
def fnExactBreakOfRow : OpenClaim := { program := "ytjkjnhkamieljaa", sum := "c80352fbe9ff8b1b927e412b46ae201254ca4f12a4faee5d343ad5cbe964b1fa", func := "loop.example/g03000/laws.FnExactBreakOf", spec := "fnExactBreakOf", unfollowed := true, recurses := true, apart := false }
def FnExactBreakOfSaid : Prop := fnExactBreakOfRow.holds Try.pinned (OpenSpec.ofChange fnExactBreakOfSpec)

/-- ITS FALSE NEIGHBOUR: 'it returns false'. Refute it at one input. -/
def fnExactBreakOfWrong : ChangeSpec := { name := "fnExactBreakOf", fn := fun _ => fun
  | [d1, d2] => { results := [.lit (.bool false)], args := [d1, d2] }
  | _ => none }
def FnExactBreakOfWrongFalsely : Prop := fnExactBreakOfRow.holds Try.pinned (OpenSpec.ofChange fnExactBreakOfWrong)

/-- 'laws.FnExactBreakName': WHATEVER THE INPUT: true; the input reads as it did. -/
def fnExactBreakNameSpec : ChangeSpec := { name := "fnExactBreakName", fn := fun _ => fun
  | [d] => { results := [.lit (.bool true)], args := [d] }
  | _ => none }
def fnExactBreakNameRow : OpenClaim := { program := "ytjkjnhkamieljaa", sum := "c80352fbe9ff8b1b927e412b46ae201254ca4f12a4faee5d343ad5cbe964b1fa", func := "loop.example/g03000/laws.FnExactBreakName", spec := "fnExactBreakName", apart := false }
def FnExactBreakNameSaid : Prop := fnExactBreakNameRow.holds Try.pinned (OpenSpec.ofChange fnExactBreakNameSpec)

/-- ITS FALSE NEIGHBOUR: 'it returns false'. Refute it at one input. -/
def fnExactBreakNameWrong : ChangeSpec := { name := "fnExactBreakName", fn := fun _ => fun
  | [d] => { results := [.lit (.bool false)], args := [d] }
  | _ => none }
def FnExactBreakNameWrongFalsely : Prop := fnExactBreakNameRow.holds Try.pinned (OpenSpec.ofChange fnExactBreakNameWrong)

/-- 'laws.FnExactLostBy': WHATEVER THE INPUT: true; the input reads as it did. -/
def fnExactLostBySpec : ChangeSpec := { name := "fnExactLostBy", fn := fun _ => fun
  | [d1, d2, d3] => { results := [.lit (.bool true)], args := [d1, d2, d3] }
  | _ => none }
def fnExactLostByRow : OpenClaim := { program := "ytjkjnhkamieljaa", sum := "c80352fbe9ff8b1b927e412b46ae201254ca4f12a4faee5d343ad5cbe964b1fa", func := "loop.example/g03000/laws.FnExactLostBy", spec := "fnExactLostBy", unfollowed := true, recurses := true, apart := false }
def FnExactLostBySaid : Prop := fnExactLostByRow.holds Try.pinned (OpenSpec.ofChange fnExactLostBySpec)

/-- ITS FALSE NEIGHBOUR: 'it returns false'. Refute it at one input. -/
def fnExactLostByWrong : ChangeSpec := { name := "fnExactLostBy", fn := fun _ => fun
  | [d1, d2, d3] => { results := [.lit (.bool false)], args := [d1, d2, d3] }
  | _ => none }
def FnExactLostByWrongFalsely : Prop := fnExactLostByRow.holds Try.pinned (OpenSpec.ofChange fnExactLostByWrong)

/-- 'laws.FnExactSkipsTail': WHATEVER THE INPUT: true; the input reads as it did. -/
def fnExactSkipsTailSpec : ChangeSpec := { name := "fnExactSkipsTail", fn := fun _ => fun
  | [d1, d2, d3] => { results := [.lit (.bool true)], args := [d1, d2, d3] }
  | _ => none }
def fnExactSkipsTailRow : OpenClaim := { program := "ytjkjnhkamieljaa", sum := "c80352fbe9ff8b1b927e412b46ae201254ca4f12a4faee5d343ad5cbe964b1fa", func := "loop.example/g03000/laws.FnExactSkipsTail", spec := "fnExactSkipsTail", unfollowed := true, recurses := true, apart := false }
def FnExactSkipsTailSaid : Prop := fnExactSkipsTailRow.holds Try.pinned (OpenSpec.ofChange fnExactSkipsTailSpec)

/-- ITS FALSE NEIGHBOUR: 'it returns false'. Refute it at one input. -/
def fnExactSkipsTailWrong : ChangeSpec := { name := "fnExactSkipsTail", fn := fun _ => fun
  | [d1, d2, d3] => { results := [.lit (.bool false)], args := [d1, d2, d3] }
  | _ => none }
def FnExactSkipsTailWrongFalsely : Prop := fnExactSkipsTailRow.holds Try.pinned (OpenSpec.ofChange fnExactSkipsTailWrong)

/- THE SECOND FORM. 'bulk': how many values and letters a reading holds, each counted each time it is reached (what is shared counts as often as it is met; a slice's spare places count too). A statement '..UptoSaid' is the law's where the arguments, and the package variables that the reading takes, are together of bulk at most 1048576: NARROWER than '..Said'. Prove '..Said' where nothing that the law and all that it calls make is longer than what came in: it says more and counts as full. Else prove '..UptoSaid'. A law counts once. -/
mutual
def uptoBulk {H : Type} : DataW H → Nat
  | .lit (.string bytes) => bytes.length + 1
  | .lit _ => 1
  | .nil => 1
  | .ptr d => uptoBulk d + 1
  | .slice elems spare => uptoBulkAll elems + uptoBulkAll spare + 1
  | .agg parts => uptoBulkAll parts + 1
  | .iface _ d => uptoBulk d + 1
  | .map entries => uptoBulkEntries entries + 1
  | .held _ => 1
def uptoBulkAll {H : Type} : List (DataW H) → Nat
  | [] => 0
  | d :: r => uptoBulk d + uptoBulkAll r
def uptoBulkEntries {H : Type} : List (Lit × DataW H) → Nat
  | [] => 0
  | x :: r => uptoBulkEntry x + uptoBulkEntries r
def uptoBulkEntry {H : Type} : Lit × DataW H → Nat
  | (.string bytes, d) => bytes.length + uptoBulk d + 1
  | (_, d) => uptoBulk d + 1
 end
def uptoSmall : (H : Type) → List (DataW H) → Bool := fun _ ds => decide (uptoBulkAll ds ≤ 1048576)
def OpenSpec.upto (s : _root_.Go.ChangeSpec) : _root_.Go.OpenSpec := { _root_.Go.OpenSpec.ofChange s with cond := some uptoSmall }

/-- 'laws.FnDiffers', WHERE WHAT IT READS IS OF BULK AT MOST 1048576: true; the input reads as it did. -/
def fnDiffersUptoRow : OpenClaim := { program := "ytjkjnhkamieljaa", sum := "c80352fbe9ff8b1b927e412b46ae201254ca4f12a4faee5d343ad5cbe964b1fa", func := "loop.example/g03000/laws.FnDiffers", spec := "fnDiffers", unfollowed := true, recurses := true, apart := false, narrowed := true }
def FnDiffersUptoSaid : Prop := fnDiffersUptoRow.holds Try.pinned (OpenSpec.upto fnDiffersSpec)

/-- 'laws.FnExactIsWithin', WHERE WHAT IT READS IS OF BULK AT MOST 1048576: true; the input reads as it did. -/
def fnExactIsWithinUptoRow : OpenClaim := { program := "ytjkjnhkamieljaa", sum := "c80352fbe9ff8b1b927e412b46ae201254ca4f12a4faee5d343ad5cbe964b1fa", func := "loop.example/g03000/laws.FnExactIsWithin", spec := "fnExactIsWithin", unfollowed := true, recurses := true, apart := false, narrowed := true }
def FnExactIsWithinUptoSaid : Prop := fnExactIsWithinUptoRow.holds Try.pinned (OpenSpec.upto fnExactIsWithinSpec)

/-- 'laws.FnExactBreakOf', WHERE WHAT IT READS IS OF BULK AT MOST 1048576: true; the input reads as it did. -/
def fnExactBreakOfUptoRow : OpenClaim := { program := "ytjkjnhkamieljaa", sum := "c80352fbe9ff8b1b927e412b46ae201254ca4f12a4faee5d343ad5cbe964b1fa", func := "loop.example/g03000/laws.FnExactBreakOf", spec := "fnExactBreakOf", unfollowed := true, recurses := true, apart := false, narrowed := true }
def FnExactBreakOfUptoSaid : Prop := fnExactBreakOfUptoRow.holds Try.pinned (OpenSpec.upto fnExactBreakOfSpec)

/-- 'laws.FnExactBreakName', WHERE WHAT IT READS IS OF BULK AT MOST 1048576: true; the input reads as it did. -/
def fnExactBreakNameUptoRow : OpenClaim := { program := "ytjkjnhkamieljaa", sum := "c80352fbe9ff8b1b927e412b46ae201254ca4f12a4faee5d343ad5cbe964b1fa", func := "loop.example/g03000/laws.FnExactBreakName", spec := "fnExactBreakName", apart := false, narrowed := true }
def FnExactBreakNameUptoSaid : Prop := fnExactBreakNameUptoRow.holds Try.pinned (OpenSpec.upto fnExactBreakNameSpec)

/-- 'laws.FnExactLostBy', WHERE WHAT IT READS IS OF BULK AT MOST 1048576: true; the input reads as it did. -/
def fnExactLostByUptoRow : OpenClaim := { program := "ytjkjnhkamieljaa", sum := "c80352fbe9ff8b1b927e412b46ae201254ca4f12a4faee5d343ad5cbe964b1fa", func := "loop.example/g03000/laws.FnExactLostBy", spec := "fnExactLostBy", unfollowed := true, recurses := true, apart := false, narrowed := true }
def FnExactLostByUptoSaid : Prop := fnExactLostByUptoRow.holds Try.pinned (OpenSpec.upto fnExactLostBySpec)

/-- 'laws.FnExactSkipsTail', WHERE WHAT IT READS IS OF BULK AT MOST 1048576: true; the input reads as it did. -/
def fnExactSkipsTailUptoRow : OpenClaim := { program := "ytjkjnhkamieljaa", sum := "c80352fbe9ff8b1b927e412b46ae201254ca4f12a4faee5d343ad5cbe964b1fa", func := "loop.example/g03000/laws.FnExactSkipsTail", spec := "fnExactSkipsTail", unfollowed := true, recurses := true, apart := false, narrowed := true }
def FnExactSkipsTailUptoSaid : Prop := fnExactSkipsTailUptoRow.holds Try.pinned (OpenSpec.upto fnExactSkipsTailSpec)

end Rows
end Go.Proofs.Ytjkjnhkamieljaa
