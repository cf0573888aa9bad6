/-
  No cell of these rows narrows 'for every input' (looked for: loops, veiled, ifaces, maps, wideKeys, modest, calm, conditions, laid).
  DERIVED. THE GIVEN ROWS OF THIS SEAT. 10 by the template 'for every input the law returns true; each argument reads behind the call as it read before'; 0 by the template 'total and deterministic' (their statements: YtckmgbobkffabaaTotals.lean).
  GIVEN WITH THE SEED: the statements are not yours to turn. If you find one false, say at which input.
  Laid BY PROGRAM, IN A SANDBOX (cutbox-rows.mjs): the forced cells as the released guide's own fill.sh prints them over the translation 99a629dcc7df75b1… (all of the seat's roots in one cut). By AI agents, Wed Nov 11 2026. No macro, syntax, notation, axiom, sorry.
-/
import Derived.Test.YtckmgbobkffabaaChecked
import GoSem.Claim
import GoSem.ClaimJoined
import GoSem.ClaimMapViews
import Derived.JoinedTies
import Derived.KernelRfl
namespace Go.Proofs.Ytckmgbobkffabaa
/- THE CELL 'sum', in the pinned program and in every row, IS THE sha256 OF THE DUMP (.gsa) THAT YtckmgbobkffabaaProg.lean LOADS. Nothing in Lean hashes anything: it is a label: what it is worth is what the hold of that sum in a sandbox is worth. -/
noncomputable def Try.pinned : Pinned := { name := "ytckmgbobkffabaa", sum := "99a629dcc7df75b191bdd6e6767f0563402c5ad794422606a8d180069bb3b920", checked := Try.checked }
namespace Rows
def none {H : Type} : Left H := { results := [], args := [] }

/-- 'laws.FnPairs': WHATEVER THE INPUT: true; the input reads as it did. -/
def fnPairsSpec : ChangeSpec := { name := "fnPairs", fn := fun _ => fun
  | [d] => { results := [.lit (.bool true)], args := [d] }
  | _ => none }
def fnPairsRow : OpenClaim := { program := "ytckmgbobkffabaa", sum := "99a629dcc7df75b191bdd6e6767f0563402c5ad794422606a8d180069bb3b920", func := "loop.example/g03000/laws.FnPairs", spec := "fnPairs", unfollowed := true, recurses := true, plainKeys := false, apart := false }
def FnPairsSaid : Prop := fnPairsRow.holds Try.pinned (OpenSpec.ofChange fnPairsSpec)

/-- ITS FALSE NEIGHBOUR: 'it returns false'. Refute it at one input. -/
def fnPairsWrong : ChangeSpec := { name := "fnPairs", fn := fun _ => fun
  | [d] => { results := [.lit (.bool false)], args := [d] }
  | _ => none }
def FnPairsWrongFalsely : Prop := fnPairsRow.holds Try.pinned (OpenSpec.ofChange fnPairsWrong)

/-- 'laws.FnChain': WHATEVER THE INPUT: true; the input reads as it did. -/
def fnChainSpec : ChangeSpec := { name := "fnChain", fn := fun _ => fun
  | [d] => { results := [.lit (.bool true)], args := [d] }
  | _ => none }
def fnChainRow : OpenClaim := { program := "ytckmgbobkffabaa", sum := "99a629dcc7df75b191bdd6e6767f0563402c5ad794422606a8d180069bb3b920", func := "loop.example/g03000/laws.FnChain", spec := "fnChain", unfollowed := true, recurses := true, plainKeys := false, apart := false }
def FnChainSaid : Prop := fnChainRow.holds Try.pinned (OpenSpec.ofChange fnChainSpec)

/-- ITS FALSE NEIGHBOUR: 'it returns false'. Refute it at one input. -/
def fnChainWrong : ChangeSpec := { name := "fnChain", fn := fun _ => fun
  | [d] => { results := [.lit (.bool false)], args := [d] }
  | _ => none }
def FnChainWrongFalsely : Prop := fnChainRow.holds Try.pinned (OpenSpec.ofChange fnChainWrong)

/-- 'laws.FnExactNextPairs': WHATEVER THE INPUT: true; the input reads as it did. -/
def fnExactNextPairsSpec : ChangeSpec := { name := "fnExactNextPairs", fn := fun _ => fun
  | [d1, d2, d3, d4] => { results := [.lit (.bool true)], args := [d1, d2, d3, d4] }
  | _ => none }
def fnExactNextPairsRow : OpenClaim := { program := "ytckmgbobkffabaa", sum := "99a629dcc7df75b191bdd6e6767f0563402c5ad794422606a8d180069bb3b920", func := "loop.example/g03000/laws.FnExactNextPairs", spec := "fnExactNextPairs", unfollowed := true, recurses := true, plainKeys := false, apart := false }
def FnExactNextPairsSaid : Prop := fnExactNextPairsRow.holds Try.pinned (OpenSpec.ofChange fnExactNextPairsSpec)

/-- ITS FALSE NEIGHBOUR: 'it returns false'. Refute it at one input. -/
def fnExactNextPairsWrong : ChangeSpec := { name := "fnExactNextPairs", fn := fun _ => fun
  | [d1, d2, d3, d4] => { results := [.lit (.bool false)], args := [d1, d2, d3, d4] }
  | _ => none }
def FnExactNextPairsWrongFalsely : Prop := fnExactNextPairsRow.holds Try.pinned (OpenSpec.ofChange fnExactNextPairsWrong)

/-- 'laws.FnExactPairsOf': WHATEVER THE INPUT: true; the input reads as it did. -/
def fnExactPairsOfSpec : ChangeSpec := { name := "fnExactPairsOf", fn := fun _ => fun
  | [d1, d2] => { results := [.lit (.bool true)], args := [d1, d2] }
  | _ => none }
def fnExactPairsOfRow : OpenClaim := { program := "ytckmgbobkffabaa", sum := "99a629dcc7df75b191bdd6e6767f0563402c5ad794422606a8d180069bb3b920", func := "loop.example/g03000/laws.FnExactPairsOf", spec := "fnExactPairsOf", unfollowed := true, recurses := true, plainKeys := false, apart := false }
def FnExactPairsOfSaid : Prop := fnExactPairsOfRow.holds Try.pinned (OpenSpec.ofChange fnExactPairsOfSpec)

/-- ITS FALSE NEIGHBOUR: 'it returns false'. Refute it at one input. -/
def fnExactPairsOfWrong : ChangeSpec := { name := "fnExactPairsOf", fn := fun _ => fun
  | [d1, d2] => { results := [.lit (.bool false)], args := [d1, d2] }
  | _ => none }
def FnExactPairsOfWrongFalsely : Prop := fnExactPairsOfRow.holds Try.pinned (OpenSpec.ofChange fnExactPairsOfWrong)

/-- 'laws.FnExactTroubleAt': WHATEVER THE INPUT: true; the input reads as it did. -/
def fnExactTroubleAtSpec : ChangeSpec := { name := "fnExactTroubleAt", fn := fun _ => fun
  | [d1, d2, d3, d4] => { results := [.lit (.bool true)], args := [d1, d2, d3, d4] }
  | _ => none }
def fnExactTroubleAtRow : OpenClaim := { program := "ytckmgbobkffabaa", sum := "99a629dcc7df75b191bdd6e6767f0563402c5ad794422606a8d180069bb3b920", func := "loop.example/g03000/laws.FnExactTroubleAt", spec := "fnExactTroubleAt", unfollowed := true, recurses := true, plainKeys := false, apart := false }
def FnExactTroubleAtSaid : Prop := fnExactTroubleAtRow.holds Try.pinned (OpenSpec.ofChange fnExactTroubleAtSpec)

/-- ITS FALSE NEIGHBOUR: 'it returns false'. Refute it at one input. -/
def fnExactTroubleAtWrong : ChangeSpec := { name := "fnExactTroubleAt", fn := fun _ => fun
  | [d1, d2, d3, d4] => { results := [.lit (.bool false)], args := [d1, d2, d3, d4] }
  | _ => none }
def FnExactTroubleAtWrongFalsely : Prop := fnExactTroubleAtRow.holds Try.pinned (OpenSpec.ofChange fnExactTroubleAtWrong)

/-- 'laws.FnExactIsSafe': WHATEVER THE INPUT: true; the input reads as it did. -/
def fnExactIsSafeSpec : ChangeSpec := { name := "fnExactIsSafe", fn := fun _ => fun
  | [d1, d2] => { results := [.lit (.bool true)], args := [d1, d2] }
  | _ => none }
def fnExactIsSafeRow : OpenClaim := { program := "ytckmgbobkffabaa", sum := "99a629dcc7df75b191bdd6e6767f0563402c5ad794422606a8d180069bb3b920", func := "loop.example/g03000/laws.FnExactIsSafe", spec := "fnExactIsSafe", unfollowed := true, recurses := true, plainKeys := false, apart := false }
def FnExactIsSafeSaid : Prop := fnExactIsSafeRow.holds Try.pinned (OpenSpec.ofChange fnExactIsSafeSpec)

/-- ITS FALSE NEIGHBOUR: 'it returns false'. Refute it at one input. -/
def fnExactIsSafeWrong : ChangeSpec := { name := "fnExactIsSafe", fn := fun _ => fun
  | [d1, d2] => { results := [.lit (.bool false)], args := [d1, d2] }
  | _ => none }
def FnExactIsSafeWrongFalsely : Prop := fnExactIsSafeRow.holds Try.pinned (OpenSpec.ofChange fnExactIsSafeWrong)

/-- 'laws.FnExactFirstTrouble': WHATEVER THE INPUT: true; the input reads as it did. -/
def fnExactFirstTroubleSpec : ChangeSpec := { name := "fnExactFirstTrouble", fn := fun _ => fun
  | [d1, d2] => { results := [.lit (.bool true)], args := [d1, d2] }
  | _ => none }
def fnExactFirstTroubleRow : OpenClaim := { program := "ytckmgbobkffabaa", sum := "99a629dcc7df75b191bdd6e6767f0563402c5ad794422606a8d180069bb3b920", func := "loop.example/g03000/laws.FnExactFirstTrouble", spec := "fnExactFirstTrouble", unfollowed := true, recurses := true, plainKeys := false, apart := false }
def FnExactFirstTroubleSaid : Prop := fnExactFirstTroubleRow.holds Try.pinned (OpenSpec.ofChange fnExactFirstTroubleSpec)

/-- ITS FALSE NEIGHBOUR: 'it returns false'. Refute it at one input. -/
def fnExactFirstTroubleWrong : ChangeSpec := { name := "fnExactFirstTrouble", fn := fun _ => fun
  | [d1, d2] => { results := [.lit (.bool false)], args := [d1, d2] }
  | _ => none }
def FnExactFirstTroubleWrongFalsely : Prop := fnExactFirstTroubleRow.holds Try.pinned (OpenSpec.ofChange fnExactFirstTroubleWrong)

/-- 'laws.FnExactFollowPairs': WHATEVER THE INPUT: true; the input reads as it did. -/
def fnExactFollowPairsSpec : ChangeSpec := { name := "fnExactFollowPairs", fn := fun _ => fun
  | [d1, d2] => { results := [.lit (.bool true)], args := [d1, d2] }
  | _ => none }
def fnExactFollowPairsRow : OpenClaim := { program := "ytckmgbobkffabaa", sum := "99a629dcc7df75b191bdd6e6767f0563402c5ad794422606a8d180069bb3b920", func := "loop.example/g03000/laws.FnExactFollowPairs", spec := "fnExactFollowPairs", unfollowed := true, recurses := true, plainKeys := false, apart := false }
def FnExactFollowPairsSaid : Prop := fnExactFollowPairsRow.holds Try.pinned (OpenSpec.ofChange fnExactFollowPairsSpec)

/-- ITS FALSE NEIGHBOUR: 'it returns false'. Refute it at one input. -/
def fnExactFollowPairsWrong : ChangeSpec := { name := "fnExactFollowPairs", fn := fun _ => fun
  | [d1, d2] => { results := [.lit (.bool false)], args := [d1, d2] }
  | _ => none }
def FnExactFollowPairsWrongFalsely : Prop := fnExactFollowPairsRow.holds Try.pinned (OpenSpec.ofChange fnExactFollowPairsWrong)

/-- 'laws.FnExactFollows': WHATEVER THE INPUT: true; the input reads as it did. -/
def fnExactFollowsSpec : ChangeSpec := { name := "fnExactFollows", fn := fun _ => fun
  | [d1, d2] => { results := [.lit (.bool true)], args := [d1, d2] }
  | _ => none }
def fnExactFollowsRow : OpenClaim := { program := "ytckmgbobkffabaa", sum := "99a629dcc7df75b191bdd6e6767f0563402c5ad794422606a8d180069bb3b920", func := "loop.example/g03000/laws.FnExactFollows", spec := "fnExactFollows", unfollowed := true, recurses := true, plainKeys := false, apart := false }
def FnExactFollowsSaid : Prop := fnExactFollowsRow.holds Try.pinned (OpenSpec.ofChange fnExactFollowsSpec)

/-- ITS FALSE NEIGHBOUR: 'it returns false'. Refute it at one input. -/
def fnExactFollowsWrong : ChangeSpec := { name := "fnExactFollows", fn := fun _ => fun
  | [d1, d2] => { results := [.lit (.bool false)], args := [d1, d2] }
  | _ => none }
def FnExactFollowsWrongFalsely : Prop := fnExactFollowsRow.holds Try.pinned (OpenSpec.ofChange fnExactFollowsWrong)

/-- 'laws.FnExactChainFollows': WHATEVER THE INPUT: true; the input reads as it did. -/
def fnExactChainFollowsSpec : ChangeSpec := { name := "fnExactChainFollows", fn := fun _ => fun
  | [d] => { results := [.lit (.bool true)], args := [d] }
  | _ => none }
def fnExactChainFollowsRow : OpenClaim := { program := "ytckmgbobkffabaa", sum := "99a629dcc7df75b191bdd6e6767f0563402c5ad794422606a8d180069bb3b920", func := "loop.example/g03000/laws.FnExactChainFollows", spec := "fnExactChainFollows", unfollowed := true, recurses := true, plainKeys := false, apart := false }
def FnExactChainFollowsSaid : Prop := fnExactChainFollowsRow.holds Try.pinned (OpenSpec.ofChange fnExactChainFollowsSpec)

/-- ITS FALSE NEIGHBOUR: 'it returns false'. Refute it at one input. -/
def fnExactChainFollowsWrong : ChangeSpec := { name := "fnExactChainFollows", fn := fun _ => fun
  | [d] => { results := [.lit (.bool false)], args := [d] }
  | _ => none }
def FnExactChainFollowsWrongFalsely : Prop := fnExactChainFollowsRow.holds Try.pinned (OpenSpec.ofChange fnExactChainFollowsWrong)

/- THE SECOND FORM. 'bulk': how many values and letters a reading holds, each counted each time it is reached (what is shared counts as often as it is met; a slice's spare places count too). A statement '..UptoSaid' is the law's where the arguments, and the package variables that the reading takes, are together of bulk at most 1048576: NARROWER than '..Said'. Prove '..Said' where nothing that the law and all that it calls make is longer than what came in: it says more and counts as full. Else prove '..UptoSaid'. A law counts once. -/
mutual
def uptoBulk {H : Type} : DataW H → Nat
  | .lit (.string bytes) => bytes.length + 1
  | .lit _ => 1
  | .nil => 1
  | .ptr d => uptoBulk d + 1
  | .slice elems spare => uptoBulkAll elems + uptoBulkAll spare + 1
  | .agg parts => uptoBulkAll parts + 1
  | .iface _ d => uptoBulk d + 1
  | .map entries => uptoBulkEntries entries + 1
  | .held _ => 1
def uptoBulkAll {H : Type} : List (DataW H) → Nat
  | [] => 0
  | d :: r => uptoBulk d + uptoBulkAll r
def uptoBulkEntries {H : Type} : List (Lit × DataW H) → Nat
  | [] => 0
  | x :: r => uptoBulkEntry x + uptoBulkEntries r
def uptoBulkEntry {H : Type} : Lit × DataW H → Nat
  | (.string bytes, d) => bytes.length + uptoBulk d + 1
  | (_, d) => uptoBulk d + 1
 end
def uptoSmall : (H : Type) → List (DataW H) → Bool := fun _ ds => decide (uptoBulkAll ds ≤ 1048576)
def OpenSpec.upto (s : _root_.Go.ChangeSpec) : _root_.Go.OpenSpec := { _root_.Go.OpenSpec.ofChange s with cond := some uptoSmall }

/-- 'laws.FnPairs', WHERE WHAT IT READS IS OF BULK AT MOST 1048576: true; the input reads as it did. -/
def fnPairsUptoRow : OpenClaim := { program := "ytckmgbobkffabaa", sum := "99a629dcc7df75b191bdd6e6767f0563402c5ad794422606a8d180069bb3b920", func := "loop.example/g03000/laws.FnPairs", spec := "fnPairs", unfollowed := true, recurses := true, plainKeys := false, apart := false, narrowed := true }
def FnPairsUptoSaid : Prop := fnPairsUptoRow.holds Try.pinned (OpenSpec.upto fnPairsSpec)

/-- 'laws.FnChain', WHERE WHAT IT READS IS OF BULK AT MOST 1048576: true; the input reads as it did. -/
def fnChainUptoRow : OpenClaim := { program := "ytckmgbobkffabaa", sum := "99a629dcc7df75b191bdd6e6767f0563402c5ad794422606a8d180069bb3b920", func := "loop.example/g03000/laws.FnChain", spec := "fnChain", unfollowed := true, recurses := true, plainKeys := false, apart := false, narrowed := true }
def FnChainUptoSaid : Prop := fnChainUptoRow.holds Try.pinned (OpenSpec.upto fnChainSpec)

/-- 'laws.FnExactNextPairs', WHERE WHAT IT READS IS OF BULK AT MOST 1048576: true; the input reads as it did. -/
def fnExactNextPairsUptoRow : OpenClaim := { program := "ytckmgbobkffabaa", sum := "99a629dcc7df75b191bdd6e6767f0563402c5ad794422606a8d180069bb3b920", func := "loop.example/g03000/laws.FnExactNextPairs", spec := "fnExactNextPairs", unfollowed := true, recurses := true, plainKeys := false, apart := false, narrowed := true }
def FnExactNextPairsUptoSaid : Prop := fnExactNextPairsUptoRow.holds Try.pinned (OpenSpec.upto fnExactNextPairsSpec)

/-- 'laws.FnExactPairsOf', WHERE WHAT IT READS IS OF BULK AT MOST 1048576: true; the input reads as it did. -/
def fnExactPairsOfUptoRow : OpenClaim := { program := "ytckmgbobkffabaa", sum := "99a629dcc7df75b191bdd6e6767f0563402c5ad794422606a8d180069bb3b920", func := "loop.example/g03000/laws.FnExactPairsOf", spec := "fnExactPairsOf", unfollowed := true, recurses := true, plainKeys := false, apart := false, narrowed := true }
def FnExactPairsOfUptoSaid : Prop := fnExactPairsOfUptoRow.holds Try.pinned (OpenSpec.upto fnExactPairsOfSpec)

/-- 'laws.FnExactTroubleAt', WHERE WHAT IT READS IS OF BULK AT MOST 1048576: true; the input reads as it did. -/
def fnExactTroubleAtUptoRow : OpenClaim := { program := "ytckmgbobkffabaa", sum := "99a629dcc7df75b191bdd6e6767f0563402c5ad794422606a8d180069bb3b920", func := "loop.example/g03000/laws.FnExactTroubleAt", spec := "fnExactTroubleAt", unfollowed := true, recurses := true, plainKeys := false, apart := false, narrowed := true }
def FnExactTroubleAtUptoSaid : Prop := fnExactTroubleAtUptoRow.holds Try.pinned (OpenSpec.upto fnExactTroubleAtSpec)

/-- 'laws.FnExactIsSafe', WHERE WHAT IT READS IS OF BULK AT MOST 1048576: true; the input reads as it did. -/
def fnExactIsSafeUptoRow : OpenClaim := { program := "ytckmgbobkffabaa", sum := "99a629dcc7df75b191bdd6e6767f0563402c5ad794422606a8d180069bb3b920", func := "loop.example/g03000/laws.FnExactIsSafe", spec := "fnExactIsSafe", unfollowed := true, recurses := true, plainKeys := false, apart := false, narrowed := true }
def FnExactIsSafeUptoSaid : Prop := fnExactIsSafeUptoRow.holds Try.pinned (OpenSpec.upto fnExactIsSafeSpec)

/-- 'laws.FnExactFirstTrouble', WHERE WHAT IT READS IS OF BULK AT MOST 1048576: true; the input reads as it did. -/
def fnExactFirstTroubleUptoRow : OpenClaim := { program := "ytckmgbobkffabaa", sum := "99a629dcc7df75b191bdd6e6767f0563402c5ad794422606a8d180069bb3b920", func := "loop.example/g03000/laws.FnExactFirstTrouble", spec := "fnExactFirstTrouble", unfollowed := true, recurses := true, plainKeys := false, apart := false, narrowed := true }
def FnExactFirstTroubleUptoSaid : Prop := fnExactFirstTroubleUptoRow.holds Try.pinned (OpenSpec.upto fnExactFirstTroubleSpec)

/-- 'laws.FnExactFollowPairs', WHERE WHAT IT READS IS OF BULK AT MOST 1048576: true; the input reads as it did. -/
def fnExactFollowPairsUptoRow : OpenClaim := { program := "ytckmgbobkffabaa", sum := "99a629dcc7df75b191bdd6e6767f0563402c5ad794422606a8d180069bb3b920", func := "loop.example/g03000/laws.FnExactFollowPairs", spec := "fnExactFollowPairs", unfollowed := true, recurses := true, plainKeys := false, apart := false, narrowed := true }
def FnExactFollowPairsUptoSaid : Prop := fnExactFollowPairsUptoRow.holds Try.pinned (OpenSpec.upto fnExactFollowPairsSpec)

/-- 'laws.FnExactFollows', WHERE WHAT IT READS IS OF BULK AT MOST 1048576: true; the input reads as it did. -/
def fnExactFollowsUptoRow : OpenClaim := { program := "ytckmgbobkffabaa", sum := "99a629dcc7df75b191bdd6e6767f0563402c5ad794422606a8d180069bb3b920", func := "loop.example/g03000/laws.FnExactFollows", spec := "fnExactFollows", unfollowed := true, recurses := true, plainKeys := false, apart := false, narrowed := true }
def FnExactFollowsUptoSaid : Prop := fnExactFollowsUptoRow.holds Try.pinned (OpenSpec.upto fnExactFollowsSpec)

/-- 'laws.FnExactChainFollows', WHERE WHAT IT READS IS OF BULK AT MOST 1048576: true; the input reads as it did. -/
def fnExactChainFollowsUptoRow : OpenClaim := { program := "ytckmgbobkffabaa", sum := "99a629dcc7df75b191bdd6e6767f0563402c5ad794422606a8d180069bb3b920", func := "loop.example/g03000/laws.FnExactChainFollows", spec := "fnExactChainFollows", unfollowed := true, recurses := true, plainKeys := false, apart := false, narrowed := true }
def FnExactChainFollowsUptoSaid : Prop := fnExactChainFollowsUptoRow.holds Try.pinned (OpenSpec.upto fnExactChainFollowsSpec)

end Rows
end Go.Proofs.Ytckmgbobkffabaa
