/-
  No cell of these rows narrows 'for every input' (looked for: loops, veiled, ifaces, maps, wideKeys, modest, calm, conditions, laid).
  DERIVED. THE GIVEN ROWS OF THIS SEAT. 6 by the template 'for every input the law returns true; each argument reads behind the call as it read before'; 0 by the template 'total and deterministic' (their statements: YtiaknjeeonlbcaaTotals.lean).
  GIVEN WITH THE SEED: the statements are not yours to turn. If you find one false, say at which input.
  Laid BY PROGRAM, IN A SANDBOX (cutbox-rows.mjs): the forced cells as the released guide's own fill.sh prints them over the translation 1751fb24c06ecbbd… (all of the seat's roots in one cut). By AI agents, Wed Nov 11 2026. No macro, syntax, notation, axiom, sorry.
-/
import Derived.Test.YtiaknjeeonlbcaaChecked
import GoSem.Claim
import GoSem.ClaimJoined
import GoSem.ClaimMapViews
import Derived.JoinedTies
import Derived.KernelRfl
namespace Go.Proofs.Ytiaknjeeonlbcaa
/- THE CELL 'sum', in the pinned program and in every row, IS THE sha256 OF THE DUMP (.gsa) THAT YtiaknjeeonlbcaaProg.lean LOADS. Nothing in Lean hashes anything: it is a label: what it is worth is what the hold of that sum in a sandbox is worth. -/
noncomputable def Try.pinned : Pinned := { name := "ytiaknjeeonlbcaa", sum := "1751fb24c06ecbbdc9e5c04c1016825f103ba81fade22b8ccd5bee1ba0dd97bd", checked := Try.checked }
namespace Rows
def none {H : Type} : Left H := { results := [], args := [] }

/-- 'laws.FnTranscripts': WHATEVER THE INPUT: true; the input reads as it did. -/
def fnTranscriptsSpec : ChangeSpec := { name := "fnTranscripts", fn := fun _ => fun
  | [d] => { results := [.lit (.bool true)], args := [d] }
  | _ => none }
def fnTranscriptsRow : OpenClaim := { program := "ytiaknjeeonlbcaa", sum := "1751fb24c06ecbbdc9e5c04c1016825f103ba81fade22b8ccd5bee1ba0dd97bd", func := "loop.example/g03000/laws.FnTranscripts", spec := "fnTranscripts", unfollowed := true, recurses := true, apart := false }
def FnTranscriptsSaid : Prop := fnTranscriptsRow.holds Try.pinned (OpenSpec.ofChange fnTranscriptsSpec)

/-- ITS FALSE NEIGHBOUR: 'it returns false'. Refute it at one input. -/
def fnTranscriptsWrong : ChangeSpec := { name := "fnTranscripts", fn := fun _ => fun
  | [d] => { results := [.lit (.bool false)], args := [d] }
  | _ => none }
def FnTranscriptsWrongFalsely : Prop := fnTranscriptsRow.holds Try.pinned (OpenSpec.ofChange fnTranscriptsWrong)

/-- 'laws.FnExactIsTranscript': WHATEVER THE INPUT: true; the input reads as it did. -/
def fnExactIsTranscriptSpec : ChangeSpec := { name := "fnExactIsTranscript", fn := fun _ => fun
  | [d] => { results := [.lit (.bool true)], args := [d] }
  | _ => none }
def fnExactIsTranscriptRow : OpenClaim := { program := "ytiaknjeeonlbcaa", sum := "1751fb24c06ecbbdc9e5c04c1016825f103ba81fade22b8ccd5bee1ba0dd97bd", func := "loop.example/g03000/laws.FnExactIsTranscript", spec := "fnExactIsTranscript", unfollowed := true, recurses := true, apart := false }
def FnExactIsTranscriptSaid : Prop := fnExactIsTranscriptRow.holds Try.pinned (OpenSpec.ofChange fnExactIsTranscriptSpec)

/-- ITS FALSE NEIGHBOUR: 'it returns false'. Refute it at one input. -/
def fnExactIsTranscriptWrong : ChangeSpec := { name := "fnExactIsTranscript", fn := fun _ => fun
  | [d] => { results := [.lit (.bool false)], args := [d] }
  | _ => none }
def FnExactIsTranscriptWrongFalsely : Prop := fnExactIsTranscriptRow.holds Try.pinned (OpenSpec.ofChange fnExactIsTranscriptWrong)

/-- 'laws.FnExactTranscriptHash': WHATEVER THE INPUT: true; the input reads as it did. -/
def fnExactTranscriptHashSpec : ChangeSpec := { name := "fnExactTranscriptHash", fn := fun _ => fun
  | [d] => { results := [.lit (.bool true)], args := [d] }
  | _ => none }
def fnExactTranscriptHashRow : OpenClaim := { program := "ytiaknjeeonlbcaa", sum := "1751fb24c06ecbbdc9e5c04c1016825f103ba81fade22b8ccd5bee1ba0dd97bd", func := "loop.example/g03000/laws.FnExactTranscriptHash", spec := "fnExactTranscriptHash", unfollowed := true, recurses := true, apart := false }
def FnExactTranscriptHashSaid : Prop := fnExactTranscriptHashRow.holds Try.pinned (OpenSpec.ofChange fnExactTranscriptHashSpec)

/-- ITS FALSE NEIGHBOUR: 'it returns false'. Refute it at one input. -/
def fnExactTranscriptHashWrong : ChangeSpec := { name := "fnExactTranscriptHash", fn := fun _ => fun
  | [d] => { results := [.lit (.bool false)], args := [d] }
  | _ => none }
def FnExactTranscriptHashWrongFalsely : Prop := fnExactTranscriptHashRow.holds Try.pinned (OpenSpec.ofChange fnExactTranscriptHashWrong)

/-- 'laws.FnExactFinishOf': WHATEVER THE INPUT: true; the input reads as it did. -/
def fnExactFinishOfSpec : ChangeSpec := { name := "fnExactFinishOf", fn := fun _ => fun
  | [d1, d2, d3] => { results := [.lit (.bool true)], args := [d1, d2, d3] }
  | _ => none }
def fnExactFinishOfRow : OpenClaim := { program := "ytiaknjeeonlbcaa", sum := "1751fb24c06ecbbdc9e5c04c1016825f103ba81fade22b8ccd5bee1ba0dd97bd", func := "loop.example/g03000/laws.FnExactFinishOf", spec := "fnExactFinishOf", unfollowed := true, recurses := true, apart := false }
def FnExactFinishOfSaid : Prop := fnExactFinishOfRow.holds Try.pinned (OpenSpec.ofChange fnExactFinishOfSpec)

/-- ITS FALSE NEIGHBOUR: 'it returns false'. Refute it at one input. -/
def fnExactFinishOfWrong : ChangeSpec := { name := "fnExactFinishOf", fn := fun _ => fun
  | [d1, d2, d3] => { results := [.lit (.bool false)], args := [d1, d2, d3] }
  | _ => none }
def FnExactFinishOfWrongFalsely : Prop := fnExactFinishOfRow.holds Try.pinned (OpenSpec.ofChange fnExactFinishOfWrong)

/-- 'laws.FnExactChecksOut': WHATEVER THE INPUT: true; the input reads as it did. -/
def fnExactChecksOutSpec : ChangeSpec := { name := "fnExactChecksOut", fn := fun _ => fun
  | [d1, d2, d3, d4] => { results := [.lit (.bool true)], args := [d1, d2, d3, d4] }
  | _ => none }
def fnExactChecksOutRow : OpenClaim := { program := "ytiaknjeeonlbcaa", sum := "1751fb24c06ecbbdc9e5c04c1016825f103ba81fade22b8ccd5bee1ba0dd97bd", func := "loop.example/g03000/laws.FnExactChecksOut", spec := "fnExactChecksOut", unfollowed := true, recurses := true, apart := false }
def FnExactChecksOutSaid : Prop := fnExactChecksOutRow.holds Try.pinned (OpenSpec.ofChange fnExactChecksOutSpec)

/-- ITS FALSE NEIGHBOUR: 'it returns false'. Refute it at one input. -/
def fnExactChecksOutWrong : ChangeSpec := { name := "fnExactChecksOut", fn := fun _ => fun
  | [d1, d2, d3, d4] => { results := [.lit (.bool false)], args := [d1, d2, d3, d4] }
  | _ => none }
def FnExactChecksOutWrongFalsely : Prop := fnExactChecksOutRow.holds Try.pinned (OpenSpec.ofChange fnExactChecksOutWrong)

/-- 'laws.FnExactSameTranscripts': WHATEVER THE INPUT: true; the input reads as it did. -/
def fnExactSameTranscriptsSpec : ChangeSpec := { name := "fnExactSameTranscripts", fn := fun _ => fun
  | [d1, d2] => { results := [.lit (.bool true)], args := [d1, d2] }
  | _ => none }
def fnExactSameTranscriptsRow : OpenClaim := { program := "ytiaknjeeonlbcaa", sum := "1751fb24c06ecbbdc9e5c04c1016825f103ba81fade22b8ccd5bee1ba0dd97bd", func := "loop.example/g03000/laws.FnExactSameTranscripts", spec := "fnExactSameTranscripts", unfollowed := true, recurses := true, apart := false }
def FnExactSameTranscriptsSaid : Prop := fnExactSameTranscriptsRow.holds Try.pinned (OpenSpec.ofChange fnExactSameTranscriptsSpec)

/-- ITS FALSE NEIGHBOUR: 'it returns false'. Refute it at one input. -/
def fnExactSameTranscriptsWrong : ChangeSpec := { name := "fnExactSameTranscripts", fn := fun _ => fun
  | [d1, d2] => { results := [.lit (.bool false)], args := [d1, d2] }
  | _ => none }
def FnExactSameTranscriptsWrongFalsely : Prop := fnExactSameTranscriptsRow.holds Try.pinned (OpenSpec.ofChange fnExactSameTranscriptsWrong)

/- THE SECOND FORM. 'bulk': how many values and letters a reading holds, each counted each time it is reached (what is shared counts as often as it is met; a slice's spare places count too). A statement '..UptoSaid' is the law's where the arguments, and the package variables that the reading takes, are together of bulk at most 1048576: NARROWER than '..Said'. Prove '..Said' where nothing that the law and all that it calls make is longer than what came in: it says more and counts as full. Else prove '..UptoSaid'. A law counts once. -/
mutual
def uptoBulk {H : Type} : DataW H → Nat
  | .lit (.string bytes) => bytes.length + 1
  | .lit _ => 1
  | .nil => 1
  | .ptr d => uptoBulk d + 1
  | .slice elems spare => uptoBulkAll elems + uptoBulkAll spare + 1
  | .agg parts => uptoBulkAll parts + 1
  | .iface _ d => uptoBulk d + 1
  | .map entries => uptoBulkEntries entries + 1
  | .held _ => 1
def uptoBulkAll {H : Type} : List (DataW H) → Nat
  | [] => 0
  | d :: r => uptoBulk d + uptoBulkAll r
def uptoBulkEntries {H : Type} : List (Lit × DataW H) → Nat
  | [] => 0
  | x :: r => uptoBulkEntry x + uptoBulkEntries r
def uptoBulkEntry {H : Type} : Lit × DataW H → Nat
  | (.string bytes, d) => bytes.length + uptoBulk d + 1
  | (_, d) => uptoBulk d + 1
 end
def uptoSmall : (H : Type) → List (DataW H) → Bool := fun _ ds => decide (uptoBulkAll ds ≤ 1048576)
def OpenSpec.upto (s : _root_.Go.ChangeSpec) : _root_.Go.OpenSpec := { _root_.Go.OpenSpec.ofChange s with cond := some uptoSmall }

/-- 'laws.FnTranscripts', WHERE WHAT IT READS IS OF BULK AT MOST 1048576: true; the input reads as it did. -/
def fnTranscriptsUptoRow : OpenClaim := { program := "ytiaknjeeonlbcaa", sum := "1751fb24c06ecbbdc9e5c04c1016825f103ba81fade22b8ccd5bee1ba0dd97bd", func := "loop.example/g03000/laws.FnTranscripts", spec := "fnTranscripts", unfollowed := true, recurses := true, apart := false, narrowed := true }
def FnTranscriptsUptoSaid : Prop := fnTranscriptsUptoRow.holds Try.pinned (OpenSpec.upto fnTranscriptsSpec)

/-- 'laws.FnExactIsTranscript', WHERE WHAT IT READS IS OF BULK AT MOST 1048576: true; the input reads as it did. -/
def fnExactIsTranscriptUptoRow : OpenClaim := { program := "ytiaknjeeonlbcaa", sum := "1751fb24c06ecbbdc9e5c04c1016825f103ba81fade22b8ccd5bee1ba0dd97bd", func := "loop.example/g03000/laws.FnExactIsTranscript", spec := "fnExactIsTranscript", unfollowed := true, recurses := true, apart := false, narrowed := true }
def FnExactIsTranscriptUptoSaid : Prop := fnExactIsTranscriptUptoRow.holds Try.pinned (OpenSpec.upto fnExactIsTranscriptSpec)

/-- 'laws.FnExactTranscriptHash', WHERE WHAT IT READS IS OF BULK AT MOST 1048576: true; the input reads as it did. -/
def fnExactTranscriptHashUptoRow : OpenClaim := { program := "ytiaknjeeonlbcaa", sum := "1751fb24c06ecbbdc9e5c04c1016825f103ba81fade22b8ccd5bee1ba0dd97bd", func := "loop.example/g03000/laws.FnExactTranscriptHash", spec := "fnExactTranscriptHash", unfollowed := true, recurses := true, apart := false, narrowed := true }
def FnExactTranscriptHashUptoSaid : Prop := fnExactTranscriptHashUptoRow.holds Try.pinned (OpenSpec.upto fnExactTranscriptHashSpec)

/-- 'laws.FnExactFinishOf', WHERE WHAT IT READS IS OF BULK AT MOST 1048576: true; the input reads as it did. -/
def fnExactFinishOfUptoRow : OpenClaim := { program := "ytiaknjeeonlbcaa", sum := "1751fb24c06ecbbdc9e5c04c1016825f103ba81fade22b8ccd5bee1ba0dd97bd", func := "loop.example/g03000/laws.FnExactFinishOf", spec := "fnExactFinishOf", unfollowed := true, recurses := true, apart := false, narrowed := true }
def FnExactFinishOfUptoSaid : Prop := fnExactFinishOfUptoRow.holds Try.pinned (OpenSpec.upto fnExactFinishOfSpec)

/-- 'laws.FnExactChecksOut', WHERE WHAT IT READS IS OF BULK AT MOST 1048576: true; the input reads as it did. -/
def fnExactChecksOutUptoRow : OpenClaim := { program := "ytiaknjeeonlbcaa", sum := "1751fb24c06ecbbdc9e5c04c1016825f103ba81fade22b8ccd5bee1ba0dd97bd", func := "loop.example/g03000/laws.FnExactChecksOut", spec := "fnExactChecksOut", unfollowed := true, recurses := true, apart := false, narrowed := true }
def FnExactChecksOutUptoSaid : Prop := fnExactChecksOutUptoRow.holds Try.pinned (OpenSpec.upto fnExactChecksOutSpec)

/-- 'laws.FnExactSameTranscripts', WHERE WHAT IT READS IS OF BULK AT MOST 1048576: true; the input reads as it did. -/
def fnExactSameTranscriptsUptoRow : OpenClaim := { program := "ytiaknjeeonlbcaa", sum := "1751fb24c06ecbbdc9e5c04c1016825f103ba81fade22b8ccd5bee1ba0dd97bd", func := "loop.example/g03000/laws.FnExactSameTranscripts", spec := "fnExactSameTranscripts", unfollowed := true, recurses := true, apart := false, narrowed := true }
def FnExactSameTranscriptsUptoSaid : Prop := fnExactSameTranscriptsUptoRow.holds Try.pinned (OpenSpec.upto fnExactSameTranscriptsSpec)

end Rows
end Go.Proofs.Ytiaknjeeonlbcaa
