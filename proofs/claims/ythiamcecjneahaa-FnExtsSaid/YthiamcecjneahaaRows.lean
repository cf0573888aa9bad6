/-
  No cell of these rows narrows 'for every input' (looked for: loops, veiled, ifaces, maps, wideKeys, modest, calm, conditions, laid).
  DERIVED. THE GIVEN ROWS OF THIS SEAT. 8 by the template 'for every input the law returns true; each argument reads behind the call as it read before'; 0 by the template 'total and deterministic' (their statements: YthiamcecjneahaaTotals.lean).
  GIVEN WITH THE SEED: the statements are not yours to turn. If you find one false, say at which input.
  Laid BY PROGRAM, IN A SANDBOX (cutbox-rows.mjs): the forced cells as the released guide's own fill.sh prints them over the translation 6d92a364d81be02c… (all of the seat's roots in one cut). By AI agents, Wed Nov 11 2026. No macro, syntax, notation, axiom, sorry.
-/
import Derived.Test.YthiamcecjneahaaChecked
import GoSem.Claim
import GoSem.ClaimJoined
import GoSem.ClaimMapViews
import Derived.JoinedTies
import Derived.KernelRfl
namespace Go.Proofs.Ythiamcecjneahaa
/- THE CELL 'sum', in the pinned program and in every row, IS THE sha256 OF THE DUMP (.gsa) THAT YthiamcecjneahaaProg.lean LOADS. Nothing in Lean hashes anything: it is a label: what it is worth is what the hold of that sum in a sandbox is worth. -/
noncomputable def Try.pinned : Pinned := { name := "ythiamcecjneahaa", sum := "6d92a364d81be02c580971d622c10071ac1bfaa6a6001b868e33a27811372cb8", checked := Try.checked }
namespace Rows
def none {H : Type} : Left H := { results := [], args := [] }

/-- 'laws.FnExts': WHATEVER THE INPUT: true; the input reads as it did. -/
def fnExtsSpec : ChangeSpec := { name := "fnExts", fn := fun _ => fun
  | [d] => { results := [.lit (.bool true)], args := [d] }
  | _ => none }
def fnExtsRow : OpenClaim := { program := "ythiamcecjneahaa", sum := "6d92a364d81be02c580971d622c10071ac1bfaa6a6001b868e33a27811372cb8", func := "loop.example/g03000/laws.FnExts", spec := "fnExts", unfollowed := true, recurses := true, apart := false }
def FnExtsSaid : Prop := fnExtsRow.holds Try.pinned (OpenSpec.ofChange fnExtsSpec)

/-- ITS FALSE NEIGHBOUR: 'it returns false'. Refute it at one input. -/
def fnExtsWrong : ChangeSpec := { name := "fnExts", fn := fun _ => fun
  | [d] => { results := [.lit (.bool false)], args := [d] }
  | _ => none }
def FnExtsWrongFalsely : Prop := fnExtsRow.holds Try.pinned (OpenSpec.ofChange fnExtsWrong)

/-- 'laws.FnExactAreExts': WHATEVER THE INPUT: true; the input reads as it did. -/
def fnExactAreExtsSpec : ChangeSpec := { name := "fnExactAreExts", fn := fun _ => fun
  | [d] => { results := [.lit (.bool true)], args := [d] }
  | _ => none }
def fnExactAreExtsRow : OpenClaim := { program := "ythiamcecjneahaa", sum := "6d92a364d81be02c580971d622c10071ac1bfaa6a6001b868e33a27811372cb8", func := "loop.example/g03000/laws.FnExactAreExts", spec := "fnExactAreExts", unfollowed := true, recurses := true, apart := false }
def FnExactAreExtsSaid : Prop := fnExactAreExtsRow.holds Try.pinned (OpenSpec.ofChange fnExactAreExtsSpec)

/-- ITS FALSE NEIGHBOUR: 'it returns false'. Refute it at one input. -/
def fnExactAreExtsWrong : ChangeSpec := { name := "fnExactAreExts", fn := fun _ => fun
  | [d] => { results := [.lit (.bool false)], args := [d] }
  | _ => none }
def FnExactAreExtsWrongFalsely : Prop := fnExactAreExtsRow.holds Try.pinned (OpenSpec.ofChange fnExactAreExtsWrong)

/-- 'laws.FnExactEncodeExts': WHATEVER THE INPUT: true; the input reads as it did. -/
def fnExactEncodeExtsSpec : ChangeSpec := { name := "fnExactEncodeExts", fn := fun _ => fun
  | [d] => { results := [.lit (.bool true)], args := [d] }
  | _ => none }
def fnExactEncodeExtsRow : OpenClaim := { program := "ythiamcecjneahaa", sum := "6d92a364d81be02c580971d622c10071ac1bfaa6a6001b868e33a27811372cb8", func := "loop.example/g03000/laws.FnExactEncodeExts", spec := "fnExactEncodeExts", unfollowed := true, recurses := true, apart := false }
def FnExactEncodeExtsSaid : Prop := fnExactEncodeExtsRow.holds Try.pinned (OpenSpec.ofChange fnExactEncodeExtsSpec)

/-- ITS FALSE NEIGHBOUR: 'it returns false'. Refute it at one input. -/
def fnExactEncodeExtsWrong : ChangeSpec := { name := "fnExactEncodeExts", fn := fun _ => fun
  | [d] => { results := [.lit (.bool false)], args := [d] }
  | _ => none }
def FnExactEncodeExtsWrongFalsely : Prop := fnExactEncodeExtsRow.holds Try.pinned (OpenSpec.ofChange fnExactEncodeExtsWrong)

/-- 'laws.FnExactDecodeExts': WHATEVER THE INPUT: true; the input reads as it did. -/
def fnExactDecodeExtsSpec : ChangeSpec := { name := "fnExactDecodeExts", fn := fun _ => fun
  | [d] => { results := [.lit (.bool true)], args := [d] }
  | _ => none }
def fnExactDecodeExtsRow : OpenClaim := { program := "ythiamcecjneahaa", sum := "6d92a364d81be02c580971d622c10071ac1bfaa6a6001b868e33a27811372cb8", func := "loop.example/g03000/laws.FnExactDecodeExts", spec := "fnExactDecodeExts", unfollowed := true, recurses := true, apart := false }
def FnExactDecodeExtsSaid : Prop := fnExactDecodeExtsRow.holds Try.pinned (OpenSpec.ofChange fnExactDecodeExtsSpec)

/-- ITS FALSE NEIGHBOUR: 'it returns false'. Refute it at one input. -/
def fnExactDecodeExtsWrong : ChangeSpec := { name := "fnExactDecodeExts", fn := fun _ => fun
  | [d] => { results := [.lit (.bool false)], args := [d] }
  | _ => none }
def FnExactDecodeExtsWrongFalsely : Prop := fnExactDecodeExtsRow.holds Try.pinned (OpenSpec.ofChange fnExactDecodeExtsWrong)

/-- 'laws.FnExactExtOf': WHATEVER THE INPUT: true; the input reads as it did. -/
def fnExactExtOfSpec : ChangeSpec := { name := "fnExactExtOf", fn := fun _ => fun
  | [d1, d2] => { results := [.lit (.bool true)], args := [d1, d2] }
  | _ => none }
def fnExactExtOfRow : OpenClaim := { program := "ythiamcecjneahaa", sum := "6d92a364d81be02c580971d622c10071ac1bfaa6a6001b868e33a27811372cb8", func := "loop.example/g03000/laws.FnExactExtOf", spec := "fnExactExtOf", unfollowed := true, recurses := true, apart := false }
def FnExactExtOfSaid : Prop := fnExactExtOfRow.holds Try.pinned (OpenSpec.ofChange fnExactExtOfSpec)

/-- ITS FALSE NEIGHBOUR: 'it returns false'. Refute it at one input. -/
def fnExactExtOfWrong : ChangeSpec := { name := "fnExactExtOf", fn := fun _ => fun
  | [d1, d2] => { results := [.lit (.bool false)], args := [d1, d2] }
  | _ => none }
def FnExactExtOfWrongFalsely : Prop := fnExactExtOfRow.holds Try.pinned (OpenSpec.ofChange fnExactExtOfWrong)

/-- 'laws.FnExactKnownOf': WHATEVER THE INPUT: true; the input reads as it did. -/
def fnExactKnownOfSpec : ChangeSpec := { name := "fnExactKnownOf", fn := fun _ => fun
  | [d1, d2] => { results := [.lit (.bool true)], args := [d1, d2] }
  | _ => none }
def fnExactKnownOfRow : OpenClaim := { program := "ythiamcecjneahaa", sum := "6d92a364d81be02c580971d622c10071ac1bfaa6a6001b868e33a27811372cb8", func := "loop.example/g03000/laws.FnExactKnownOf", spec := "fnExactKnownOf", unfollowed := true, recurses := true, apart := false }
def FnExactKnownOfSaid : Prop := fnExactKnownOfRow.holds Try.pinned (OpenSpec.ofChange fnExactKnownOfSpec)

/-- ITS FALSE NEIGHBOUR: 'it returns false'. Refute it at one input. -/
def fnExactKnownOfWrong : ChangeSpec := { name := "fnExactKnownOf", fn := fun _ => fun
  | [d1, d2] => { results := [.lit (.bool false)], args := [d1, d2] }
  | _ => none }
def FnExactKnownOfWrongFalsely : Prop := fnExactKnownOfRow.holds Try.pinned (OpenSpec.ofChange fnExactKnownOfWrong)

/-- 'laws.FnExactTagsOf': WHATEVER THE INPUT: true; the input reads as it did. -/
def fnExactTagsOfSpec : ChangeSpec := { name := "fnExactTagsOf", fn := fun _ => fun
  | [d] => { results := [.lit (.bool true)], args := [d] }
  | _ => none }
def fnExactTagsOfRow : OpenClaim := { program := "ythiamcecjneahaa", sum := "6d92a364d81be02c580971d622c10071ac1bfaa6a6001b868e33a27811372cb8", func := "loop.example/g03000/laws.FnExactTagsOf", spec := "fnExactTagsOf", apart := false }
def FnExactTagsOfSaid : Prop := fnExactTagsOfRow.holds Try.pinned (OpenSpec.ofChange fnExactTagsOfSpec)

/-- ITS FALSE NEIGHBOUR: 'it returns false'. Refute it at one input. -/
def fnExactTagsOfWrong : ChangeSpec := { name := "fnExactTagsOf", fn := fun _ => fun
  | [d] => { results := [.lit (.bool false)], args := [d] }
  | _ => none }
def FnExactTagsOfWrongFalsely : Prop := fnExactTagsOfRow.holds Try.pinned (OpenSpec.ofChange fnExactTagsOfWrong)

/-- 'laws.FnExactEqualExts': WHATEVER THE INPUT: true; the input reads as it did. -/
def fnExactEqualExtsSpec : ChangeSpec := { name := "fnExactEqualExts", fn := fun _ => fun
  | [d1, d2] => { results := [.lit (.bool true)], args := [d1, d2] }
  | _ => none }
def fnExactEqualExtsRow : OpenClaim := { program := "ythiamcecjneahaa", sum := "6d92a364d81be02c580971d622c10071ac1bfaa6a6001b868e33a27811372cb8", func := "loop.example/g03000/laws.FnExactEqualExts", spec := "fnExactEqualExts", unfollowed := true, recurses := true, apart := false }
def FnExactEqualExtsSaid : Prop := fnExactEqualExtsRow.holds Try.pinned (OpenSpec.ofChange fnExactEqualExtsSpec)

/-- ITS FALSE NEIGHBOUR: 'it returns false'. Refute it at one input. -/
def fnExactEqualExtsWrong : ChangeSpec := { name := "fnExactEqualExts", fn := fun _ => fun
  | [d1, d2] => { results := [.lit (.bool false)], args := [d1, d2] }
  | _ => none }
def FnExactEqualExtsWrongFalsely : Prop := fnExactEqualExtsRow.holds Try.pinned (OpenSpec.ofChange fnExactEqualExtsWrong)

/- THE SECOND FORM. 'bulk': how many values and letters a reading holds, each counted each time it is reached (what is shared counts as often as it is met; a slice's spare places count too). A statement '..UptoSaid' is the law's where the arguments, and the package variables that the reading takes, are together of bulk at most 1048576: NARROWER than '..Said'. Prove '..Said' where nothing that the law and all that it calls make is longer than what came in: it says more and counts as full. Else prove '..UptoSaid'. A law counts once. -/
mutual
def uptoBulk {H : Type} : DataW H → Nat
  | .lit (.string bytes) => bytes.length + 1
  | .lit _ => 1
  | .nil => 1
  | .ptr d => uptoBulk d + 1
  | .slice elems spare => uptoBulkAll elems + uptoBulkAll spare + 1
  | .agg parts => uptoBulkAll parts + 1
  | .iface _ d => uptoBulk d + 1
  | .map entries => uptoBulkEntries entries + 1
  | .held _ => 1
def uptoBulkAll {H : Type} : List (DataW H) → Nat
  | [] => 0
  | d :: r => uptoBulk d + uptoBulkAll r
def uptoBulkEntries {H : Type} : List (Lit × DataW H) → Nat
  | [] => 0
  | x :: r => uptoBulkEntry x + uptoBulkEntries r
def uptoBulkEntry {H : Type} : Lit × DataW H → Nat
  | (.string bytes, d) => bytes.length + uptoBulk d + 1
  | (_, d) => uptoBulk d + 1
 end
def uptoSmall : (H : Type) → List (DataW H) → Bool := fun _ ds => decide (uptoBulkAll ds ≤ 1048576)
def OpenSpec.upto (s : _root_.Go.ChangeSpec) : _root_.Go.OpenSpec := { _root_.Go.OpenSpec.ofChange s with cond := some uptoSmall }

/-- 'laws.FnExts', WHERE WHAT IT READS IS OF BULK AT MOST 1048576: true; the input reads as it did. -/
def fnExtsUptoRow : OpenClaim := { program := "ythiamcecjneahaa", sum := "6d92a364d81be02c580971d622c10071ac1bfaa6a6001b868e33a27811372cb8", func := "loop.example/g03000/laws.FnExts", spec := "fnExts", unfollowed := true, recurses := true, apart := false, narrowed := true }
def FnExtsUptoSaid : Prop := fnExtsUptoRow.holds Try.pinned (OpenSpec.upto fnExtsSpec)

/-- 'laws.FnExactAreExts', WHERE WHAT IT READS IS OF BULK AT MOST 1048576: true; the input reads as it did. -/
def fnExactAreExtsUptoRow : OpenClaim := { program := "ythiamcecjneahaa", sum := "6d92a364d81be02c580971d622c10071ac1bfaa6a6001b868e33a27811372cb8", func := "loop.example/g03000/laws.FnExactAreExts", spec := "fnExactAreExts", unfollowed := true, recurses := true, apart := false, narrowed := true }
def FnExactAreExtsUptoSaid : Prop := fnExactAreExtsUptoRow.holds Try.pinned (OpenSpec.upto fnExactAreExtsSpec)

/-- 'laws.FnExactEncodeExts', WHERE WHAT IT READS IS OF BULK AT MOST 1048576: true; the input reads as it did. -/
def fnExactEncodeExtsUptoRow : OpenClaim := { program := "ythiamcecjneahaa", sum := "6d92a364d81be02c580971d622c10071ac1bfaa6a6001b868e33a27811372cb8", func := "loop.example/g03000/laws.FnExactEncodeExts", spec := "fnExactEncodeExts", unfollowed := true, recurses := true, apart := false, narrowed := true }
def FnExactEncodeExtsUptoSaid : Prop := fnExactEncodeExtsUptoRow.holds Try.pinned (OpenSpec.upto fnExactEncodeExtsSpec)

/-- 'laws.FnExactDecodeExts', WHERE WHAT IT READS IS OF BULK AT MOST 1048576: true; the input reads as it did. -/
def fnExactDecodeExtsUptoRow : OpenClaim := { program := "ythiamcecjneahaa", sum := "6d92a364d81be02c580971d622c10071ac1bfaa6a6001b868e33a27811372cb8", func := "loop.example/g03000/laws.FnExactDecodeExts", spec := "fnExactDecodeExts", unfollowed := true, recurses := true, apart := false, narrowed := true }
def FnExactDecodeExtsUptoSaid : Prop := fnExactDecodeExtsUptoRow.holds Try.pinned (OpenSpec.upto fnExactDecodeExtsSpec)

/-- 'laws.FnExactExtOf', WHERE WHAT IT READS IS OF BULK AT MOST 1048576: true; the input reads as it did. -/
def fnExactExtOfUptoRow : OpenClaim := { program := "ythiamcecjneahaa", sum := "6d92a364d81be02c580971d622c10071ac1bfaa6a6001b868e33a27811372cb8", func := "loop.example/g03000/laws.FnExactExtOf", spec := "fnExactExtOf", unfollowed := true, recurses := true, apart := false, narrowed := true }
def FnExactExtOfUptoSaid : Prop := fnExactExtOfUptoRow.holds Try.pinned (OpenSpec.upto fnExactExtOfSpec)

/-- 'laws.FnExactKnownOf', WHERE WHAT IT READS IS OF BULK AT MOST 1048576: true; the input reads as it did. -/
def fnExactKnownOfUptoRow : OpenClaim := { program := "ythiamcecjneahaa", sum := "6d92a364d81be02c580971d622c10071ac1bfaa6a6001b868e33a27811372cb8", func := "loop.example/g03000/laws.FnExactKnownOf", spec := "fnExactKnownOf", unfollowed := true, recurses := true, apart := false, narrowed := true }
def FnExactKnownOfUptoSaid : Prop := fnExactKnownOfUptoRow.holds Try.pinned (OpenSpec.upto fnExactKnownOfSpec)

/-- 'laws.FnExactTagsOf', WHERE WHAT IT READS IS OF BULK AT MOST 1048576: true; the input reads as it did. -/
def fnExactTagsOfUptoRow : OpenClaim := { program := "ythiamcecjneahaa", sum := "6d92a364d81be02c580971d622c10071ac1bfaa6a6001b868e33a27811372cb8", func := "loop.example/g03000/laws.FnExactTagsOf", spec := "fnExactTagsOf", apart := false, narrowed := true }
def FnExactTagsOfUptoSaid : Prop := fnExactTagsOfUptoRow.holds Try.pinned (OpenSpec.upto fnExactTagsOfSpec)

/-- 'laws.FnExactEqualExts', WHERE WHAT IT READS IS OF BULK AT MOST 1048576: true; the input reads as it did. -/
def fnExactEqualExtsUptoRow : OpenClaim := { program := "ythiamcecjneahaa", sum := "6d92a364d81be02c580971d622c10071ac1bfaa6a6001b868e33a27811372cb8", func := "loop.example/g03000/laws.FnExactEqualExts", spec := "fnExactEqualExts", unfollowed := true, recurses := true, apart := false, narrowed := true }
def FnExactEqualExtsUptoSaid : Prop := fnExactEqualExtsUptoRow.holds Try.pinned (OpenSpec.upto fnExactEqualExtsSpec)

end Rows
end Go.Proofs.Ythiamcecjneahaa
