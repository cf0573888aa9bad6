/-
  No cell of these rows narrows 'for every input' (looked for: loops, veiled, ifaces, maps, wideKeys, modest, calm, conditions, laid).
  DERIVED. THE GIVEN ROWS OF THIS SEAT. 7 by the template 'for every input the law returns true; each argument reads behind the call as it read before'; 0 by the template 'total and deterministic' (their statements: YtjmabidahofbbaaTotals.lean).
  GIVEN WITH THE SEED: the statements are not yours to turn. If you find one false, say at which input.
  Laid BY PROGRAM, IN A SANDBOX (cutbox-rows.mjs): the forced cells as the released guide's own fill.sh prints them over the translation a16b7811155297b7… (all of the seat's roots in one cut). By AI agents, Wed Nov 11 2026. No macro, syntax, notation, axiom, sorry.
-/
import Derived.Test.YtjmabidahofbbaaChecked
import GoSem.Claim
import GoSem.ClaimJoined
import GoSem.ClaimMapViews
import Derived.JoinedTies
import Derived.KernelRfl
namespace Go.Proofs.Ytjmabidahofbbaa
/- THE CELL 'sum', in the pinned program and in every row, IS THE sha256 OF THE DUMP (.gsa) THAT YtjmabidahofbbaaProg.lean LOADS. Nothing in Lean hashes anything: it is a label: what it is worth is what the hold of that sum in a sandbox is worth. -/
noncomputable def Try.pinned : Pinned := { name := "ytjmabidahofbbaa", sum := "a16b7811155297b731cbd45802df871ecf9b03803300b106a573dc99066d7f16", checked := Try.checked }
namespace Rows
def none {H : Type} : Left H := { results := [], args := [] }

/-- 'laws.FnMade': WHATEVER THE INPUT: true; the input reads as it did. -/
def fnMadeSpec : ChangeSpec := { name := "fnMade", fn := fun _ => fun
  | [d] => { results := [.lit (.bool true)], args := [d] }
  | _ => none }
def fnMadeRow : OpenClaim := { program := "ytjmabidahofbbaa", sum := "a16b7811155297b731cbd45802df871ecf9b03803300b106a573dc99066d7f16", func := "loop.example/g03000/laws.FnMade", spec := "fnMade", unfollowed := true, recurses := true, apart := false }
def FnMadeSaid : Prop := fnMadeRow.holds Try.pinned (OpenSpec.ofChange fnMadeSpec)

/-- ITS FALSE NEIGHBOUR: 'it returns false'. Refute it at one input. -/
def fnMadeWrong : ChangeSpec := { name := "fnMade", fn := fun _ => fun
  | [d] => { results := [.lit (.bool false)], args := [d] }
  | _ => none }
def FnMadeWrongFalsely : Prop := fnMadeRow.holds Try.pinned (OpenSpec.ofChange fnMadeWrong)

/-- 'laws.FnRegistry': WHATEVER THE INPUT: true; the input reads as it did. -/
def fnRegistrySpec : ChangeSpec := { name := "fnRegistry", fn := fun _ => fun
  | [d] => { results := [.lit (.bool true)], args := [d] }
  | _ => none }
def fnRegistryRow : OpenClaim := { program := "ytjmabidahofbbaa", sum := "a16b7811155297b731cbd45802df871ecf9b03803300b106a573dc99066d7f16", func := "loop.example/g03000/laws.FnRegistry", spec := "fnRegistry", inPlace := ["slices.overlaps[loop.example/g03000/impl.Entry]"], unfollowed := true, recurses := true, apart := false }
def FnRegistrySaid : Prop := fnRegistryRow.holds Try.pinned (OpenSpec.ofChange fnRegistrySpec)

/-- ITS FALSE NEIGHBOUR: 'it returns false'. Refute it at one input. -/
def fnRegistryWrong : ChangeSpec := { name := "fnRegistry", fn := fun _ => fun
  | [d] => { results := [.lit (.bool false)], args := [d] }
  | _ => none }
def FnRegistryWrongFalsely : Prop := fnRegistryRow.holds Try.pinned (OpenSpec.ofChange fnRegistryWrong)

/-- 'laws.FnExactSpoilBytes': WHATEVER THE INPUT: true; the input reads as it did. -/
def fnExactSpoilBytesSpec : ChangeSpec := { name := "fnExactSpoilBytes", fn := fun _ => fun
  | [d1, d2] => { results := [.lit (.bool true)], args := [d1, d2] }
  | _ => none }
def fnExactSpoilBytesRow : OpenClaim := { program := "ytjmabidahofbbaa", sum := "a16b7811155297b731cbd45802df871ecf9b03803300b106a573dc99066d7f16", func := "loop.example/g03000/laws.FnExactSpoilBytes", spec := "fnExactSpoilBytes", apart := false }
def FnExactSpoilBytesSaid : Prop := fnExactSpoilBytesRow.holds Try.pinned (OpenSpec.ofChange fnExactSpoilBytesSpec)

/-- ITS FALSE NEIGHBOUR: 'it returns false'. Refute it at one input. -/
def fnExactSpoilBytesWrong : ChangeSpec := { name := "fnExactSpoilBytes", fn := fun _ => fun
  | [d1, d2] => { results := [.lit (.bool false)], args := [d1, d2] }
  | _ => none }
def FnExactSpoilBytesWrongFalsely : Prop := fnExactSpoilBytesRow.holds Try.pinned (OpenSpec.ofChange fnExactSpoilBytesWrong)

/-- 'laws.FnExactOwnerOf': WHATEVER THE INPUT: true; the input reads as it did. -/
def fnExactOwnerOfSpec : ChangeSpec := { name := "fnExactOwnerOf", fn := fun _ => fun
  | [d1, d2] => { results := [.lit (.bool true)], args := [d1, d2] }
  | _ => none }
def fnExactOwnerOfRow : OpenClaim := { program := "ytjmabidahofbbaa", sum := "a16b7811155297b731cbd45802df871ecf9b03803300b106a573dc99066d7f16", func := "loop.example/g03000/laws.FnExactOwnerOf", spec := "fnExactOwnerOf", unfollowed := true, recurses := true, apart := false }
def FnExactOwnerOfSaid : Prop := fnExactOwnerOfRow.holds Try.pinned (OpenSpec.ofChange fnExactOwnerOfSpec)

/-- ITS FALSE NEIGHBOUR: 'it returns false'. Refute it at one input. -/
def fnExactOwnerOfWrong : ChangeSpec := { name := "fnExactOwnerOf", fn := fun _ => fun
  | [d1, d2] => { results := [.lit (.bool false)], args := [d1, d2] }
  | _ => none }
def FnExactOwnerOfWrongFalsely : Prop := fnExactOwnerOfRow.holds Try.pinned (OpenSpec.ofChange fnExactOwnerOfWrong)

/-- 'laws.FnExactAssignTag': WHATEVER THE INPUT: true; the input reads as it did. -/
def fnExactAssignTagSpec : ChangeSpec := { name := "fnExactAssignTag", fn := fun _ => fun
  | [d1, d2] => { results := [.lit (.bool true)], args := [d1, d2] }
  | _ => none }
def fnExactAssignTagRow : OpenClaim := { program := "ytjmabidahofbbaa", sum := "a16b7811155297b731cbd45802df871ecf9b03803300b106a573dc99066d7f16", func := "loop.example/g03000/laws.FnExactAssignTag", spec := "fnExactAssignTag", inPlace := ["slices.overlaps[loop.example/g03000/impl.Entry]"], unfollowed := true, recurses := true, apart := false }
def FnExactAssignTagSaid : Prop := fnExactAssignTagRow.holds Try.pinned (OpenSpec.ofChange fnExactAssignTagSpec)

/-- ITS FALSE NEIGHBOUR: 'it returns false'. Refute it at one input. -/
def fnExactAssignTagWrong : ChangeSpec := { name := "fnExactAssignTag", fn := fun _ => fun
  | [d1, d2] => { results := [.lit (.bool false)], args := [d1, d2] }
  | _ => none }
def FnExactAssignTagWrongFalsely : Prop := fnExactAssignTagRow.holds Try.pinned (OpenSpec.ofChange fnExactAssignTagWrong)

/-- 'laws.FnExactRetireTag': WHATEVER THE INPUT: true; the input reads as it did. -/
def fnExactRetireTagSpec : ChangeSpec := { name := "fnExactRetireTag", fn := fun _ => fun
  | [d1, d2] => { results := [.lit (.bool true)], args := [d1, d2] }
  | _ => none }
def fnExactRetireTagRow : OpenClaim := { program := "ytjmabidahofbbaa", sum := "a16b7811155297b731cbd45802df871ecf9b03803300b106a573dc99066d7f16", func := "loop.example/g03000/laws.FnExactRetireTag", spec := "fnExactRetireTag", unfollowed := true, recurses := true, apart := false }
def FnExactRetireTagSaid : Prop := fnExactRetireTagRow.holds Try.pinned (OpenSpec.ofChange fnExactRetireTagSpec)

/-- ITS FALSE NEIGHBOUR: 'it returns false'. Refute it at one input. -/
def fnExactRetireTagWrong : ChangeSpec := { name := "fnExactRetireTag", fn := fun _ => fun
  | [d1, d2] => { results := [.lit (.bool false)], args := [d1, d2] }
  | _ => none }
def FnExactRetireTagWrongFalsely : Prop := fnExactRetireTagRow.holds Try.pinned (OpenSpec.ofChange fnExactRetireTagWrong)

/-- 'laws.FnExactClashOf': WHATEVER THE INPUT: true; the input reads as it did. -/
def fnExactClashOfSpec : ChangeSpec := { name := "fnExactClashOf", fn := fun _ => fun
  | [d1, d2, d3] => { results := [.lit (.bool true)], args := [d1, d2, d3] }
  | _ => none }
def fnExactClashOfRow : OpenClaim := { program := "ytjmabidahofbbaa", sum := "a16b7811155297b731cbd45802df871ecf9b03803300b106a573dc99066d7f16", func := "loop.example/g03000/laws.FnExactClashOf", spec := "fnExactClashOf", unfollowed := true, recurses := true, apart := false }
def FnExactClashOfSaid : Prop := fnExactClashOfRow.holds Try.pinned (OpenSpec.ofChange fnExactClashOfSpec)

/-- ITS FALSE NEIGHBOUR: 'it returns false'. Refute it at one input. -/
def fnExactClashOfWrong : ChangeSpec := { name := "fnExactClashOf", fn := fun _ => fun
  | [d1, d2, d3] => { results := [.lit (.bool false)], args := [d1, d2, d3] }
  | _ => none }
def FnExactClashOfWrongFalsely : Prop := fnExactClashOfRow.holds Try.pinned (OpenSpec.ofChange fnExactClashOfWrong)

/- THE SECOND FORM. 'bulk': how many values and letters a reading holds, each counted each time it is reached (what is shared counts as often as it is met; a slice's spare places count too). A statement '..UptoSaid' is the law's where the arguments, and the package variables that the reading takes, are together of bulk at most 1048576: NARROWER than '..Said'. Prove '..Said' where nothing that the law and all that it calls make is longer than what came in: it says more and counts as full. Else prove '..UptoSaid'. A law counts once. -/
mutual
def uptoBulk {H : Type} : DataW H → Nat
  | .lit (.string bytes) => bytes.length + 1
  | .lit _ => 1
  | .nil => 1
  | .ptr d => uptoBulk d + 1
  | .slice elems spare => uptoBulkAll elems + uptoBulkAll spare + 1
  | .agg parts => uptoBulkAll parts + 1
  | .iface _ d => uptoBulk d + 1
  | .map entries => uptoBulkEntries entries + 1
  | .held _ => 1
def uptoBulkAll {H : Type} : List (DataW H) → Nat
  | [] => 0
  | d :: r => uptoBulk d + uptoBulkAll r
def uptoBulkEntries {H : Type} : List (Lit × DataW H) → Nat
  | [] => 0
  | x :: r => uptoBulkEntry x + uptoBulkEntries r
def uptoBulkEntry {H : Type} : Lit × DataW H → Nat
  | (.string bytes, d) => bytes.length + uptoBulk d + 1
  | (_, d) => uptoBulk d + 1
 end
def uptoSmall : (H : Type) → List (DataW H) → Bool := fun _ ds => decide (uptoBulkAll ds ≤ 1048576)
def OpenSpec.upto (s : _root_.Go.ChangeSpec) : _root_.Go.OpenSpec := { _root_.Go.OpenSpec.ofChange s with cond := some uptoSmall }

/-- 'laws.FnMade', WHERE WHAT IT READS IS OF BULK AT MOST 1048576: true; the input reads as it did. -/
def fnMadeUptoRow : OpenClaim := { program := "ytjmabidahofbbaa", sum := "a16b7811155297b731cbd45802df871ecf9b03803300b106a573dc99066d7f16", func := "loop.example/g03000/laws.FnMade", spec := "fnMade", unfollowed := true, recurses := true, apart := false, narrowed := true }
def FnMadeUptoSaid : Prop := fnMadeUptoRow.holds Try.pinned (OpenSpec.upto fnMadeSpec)

/-- 'laws.FnRegistry', WHERE WHAT IT READS IS OF BULK AT MOST 1048576: true; the input reads as it did. -/
def fnRegistryUptoRow : OpenClaim := { program := "ytjmabidahofbbaa", sum := "a16b7811155297b731cbd45802df871ecf9b03803300b106a573dc99066d7f16", func := "loop.example/g03000/laws.FnRegistry", spec := "fnRegistry", inPlace := ["slices.overlaps[loop.example/g03000/impl.Entry]"], unfollowed := true, recurses := true, apart := false, narrowed := true }
def FnRegistryUptoSaid : Prop := fnRegistryUptoRow.holds Try.pinned (OpenSpec.upto fnRegistrySpec)

/-- 'laws.FnExactSpoilBytes', WHERE WHAT IT READS IS OF BULK AT MOST 1048576: true; the input reads as it did. -/
def fnExactSpoilBytesUptoRow : OpenClaim := { program := "ytjmabidahofbbaa", sum := "a16b7811155297b731cbd45802df871ecf9b03803300b106a573dc99066d7f16", func := "loop.example/g03000/laws.FnExactSpoilBytes", spec := "fnExactSpoilBytes", apart := false, narrowed := true }
def FnExactSpoilBytesUptoSaid : Prop := fnExactSpoilBytesUptoRow.holds Try.pinned (OpenSpec.upto fnExactSpoilBytesSpec)

/-- 'laws.FnExactOwnerOf', WHERE WHAT IT READS IS OF BULK AT MOST 1048576: true; the input reads as it did. -/
def fnExactOwnerOfUptoRow : OpenClaim := { program := "ytjmabidahofbbaa", sum := "a16b7811155297b731cbd45802df871ecf9b03803300b106a573dc99066d7f16", func := "loop.example/g03000/laws.FnExactOwnerOf", spec := "fnExactOwnerOf", unfollowed := true, recurses := true, apart := false, narrowed := true }
def FnExactOwnerOfUptoSaid : Prop := fnExactOwnerOfUptoRow.holds Try.pinned (OpenSpec.upto fnExactOwnerOfSpec)

/-- 'laws.FnExactAssignTag', WHERE WHAT IT READS IS OF BULK AT MOST 1048576: true; the input reads as it did. -/
def fnExactAssignTagUptoRow : OpenClaim := { program := "ytjmabidahofbbaa", sum := "a16b7811155297b731cbd45802df871ecf9b03803300b106a573dc99066d7f16", func := "loop.example/g03000/laws.FnExactAssignTag", spec := "fnExactAssignTag", inPlace := ["slices.overlaps[loop.example/g03000/impl.Entry]"], unfollowed := true, recurses := true, apart := false, narrowed := true }
def FnExactAssignTagUptoSaid : Prop := fnExactAssignTagUptoRow.holds Try.pinned (OpenSpec.upto fnExactAssignTagSpec)

/-- 'laws.FnExactRetireTag', WHERE WHAT IT READS IS OF BULK AT MOST 1048576: true; the input reads as it did. -/
def fnExactRetireTagUptoRow : OpenClaim := { program := "ytjmabidahofbbaa", sum := "a16b7811155297b731cbd45802df871ecf9b03803300b106a573dc99066d7f16", func := "loop.example/g03000/laws.FnExactRetireTag", spec := "fnExactRetireTag", unfollowed := true, recurses := true, apart := false, narrowed := true }
def FnExactRetireTagUptoSaid : Prop := fnExactRetireTagUptoRow.holds Try.pinned (OpenSpec.upto fnExactRetireTagSpec)

/-- 'laws.FnExactClashOf', WHERE WHAT IT READS IS OF BULK AT MOST 1048576: true; the input reads as it did. -/
def fnExactClashOfUptoRow : OpenClaim := { program := "ytjmabidahofbbaa", sum := "a16b7811155297b731cbd45802df871ecf9b03803300b106a573dc99066d7f16", func := "loop.example/g03000/laws.FnExactClashOf", spec := "fnExactClashOf", unfollowed := true, recurses := true, apart := false, narrowed := true }
def FnExactClashOfUptoSaid : Prop := fnExactClashOfUptoRow.holds Try.pinned (OpenSpec.upto fnExactClashOfSpec)

end Rows
end Go.Proofs.Ytjmabidahofbbaa
