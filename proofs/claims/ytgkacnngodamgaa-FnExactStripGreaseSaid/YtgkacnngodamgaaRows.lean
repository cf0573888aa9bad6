/-
  No cell of these rows narrows 'for every input' (looked for: loops, veiled, ifaces, maps, wideKeys, modest, calm, conditions, laid).
  DERIVED. THE GIVEN ROWS OF THIS SEAT. 5 by the template 'for every input the law returns true; each argument reads behind the call as it read before'; 0 by the template 'total and deterministic' (their statements: YtgkacnngodamgaaTotals.lean).
  GIVEN WITH THE SEED: the statements are not yours to turn. If you find one false, say at which input.
  Laid BY PROGRAM, IN A SANDBOX (cutbox-rows.mjs): the forced cells as the released guide's own fill.sh prints them over the translation 6e8b0a8781be30e3… (all of the seat's roots in one cut). By AI agents, Wed Nov 11 2026. No macro, syntax, notation, axiom, sorry.
-/
import Derived.Test.YtgkacnngodamgaaChecked
import GoSem.Claim
import GoSem.ClaimJoined
import GoSem.ClaimMapViews
import Derived.JoinedTies
import Derived.KernelRfl
namespace Go.Proofs.Ytgkacnngodamgaa
/- THE CELL 'sum', in the pinned program and in every row, IS THE sha256 OF THE DUMP (.gsa) THAT YtgkacnngodamgaaProg.lean LOADS. Nothing in Lean hashes anything: it is a label: what it is worth is what the hold of that sum in a sandbox is worth. -/
noncomputable def Try.pinned : Pinned := { name := "ytgkacnngodamgaa", sum := "6e8b0a8781be30e3db0bfbb9744bae016c5462b4ac0365e7d14be5d38896d242", checked := Try.checked }
namespace Rows
def none {H : Type} : Left H := { results := [], args := [] }

/-- 'laws.FnExts': WHATEVER THE INPUT: true; the input reads as it did. -/
def fnExtsSpec : ChangeSpec := { name := "fnExts", fn := fun _ => fun
  | [d] => { results := [.lit (.bool true)], args := [d] }
  | _ => none }
def fnExtsRow : OpenClaim := { program := "ytgkacnngodamgaa", sum := "6e8b0a8781be30e3db0bfbb9744bae016c5462b4ac0365e7d14be5d38896d242", func := "loop.example/g03000/laws.FnExts", spec := "fnExts", unfollowed := true, recurses := true, apart := false }
def FnExtsSaid : Prop := fnExtsRow.holds Try.pinned (OpenSpec.ofChange fnExtsSpec)

/-- ITS FALSE NEIGHBOUR: 'it returns false'. Refute it at one input. -/
def fnExtsWrong : ChangeSpec := { name := "fnExts", fn := fun _ => fun
  | [d] => { results := [.lit (.bool false)], args := [d] }
  | _ => none }
def FnExtsWrongFalsely : Prop := fnExtsRow.holds Try.pinned (OpenSpec.ofChange fnExtsWrong)

/-- 'laws.FnGrease': WHATEVER THE INPUT: true; the input reads as it did. -/
def fnGreaseSpec : ChangeSpec := { name := "fnGrease", fn := fun _ => fun
  | [d] => { results := [.lit (.bool true)], args := [d] }
  | _ => none }
def fnGreaseRow : OpenClaim := { program := "ytgkacnngodamgaa", sum := "6e8b0a8781be30e3db0bfbb9744bae016c5462b4ac0365e7d14be5d38896d242", func := "loop.example/g03000/laws.FnGrease", spec := "fnGrease", unfollowed := true, recurses := true, apart := false }
def FnGreaseSaid : Prop := fnGreaseRow.holds Try.pinned (OpenSpec.ofChange fnGreaseSpec)

/-- ITS FALSE NEIGHBOUR: 'it returns false'. Refute it at one input. -/
def fnGreaseWrong : ChangeSpec := { name := "fnGrease", fn := fun _ => fun
  | [d] => { results := [.lit (.bool false)], args := [d] }
  | _ => none }
def FnGreaseWrongFalsely : Prop := fnGreaseRow.holds Try.pinned (OpenSpec.ofChange fnGreaseWrong)

/-- 'laws.FnExactKnownOf': WHATEVER THE INPUT: true; the input reads as it did. -/
def fnExactKnownOfSpec : ChangeSpec := { name := "fnExactKnownOf", fn := fun _ => fun
  | [d1, d2] => { results := [.lit (.bool true)], args := [d1, d2] }
  | _ => none }
def fnExactKnownOfRow : OpenClaim := { program := "ytgkacnngodamgaa", sum := "6e8b0a8781be30e3db0bfbb9744bae016c5462b4ac0365e7d14be5d38896d242", func := "loop.example/g03000/laws.FnExactKnownOf", spec := "fnExactKnownOf", unfollowed := true, recurses := true, apart := false }
def FnExactKnownOfSaid : Prop := fnExactKnownOfRow.holds Try.pinned (OpenSpec.ofChange fnExactKnownOfSpec)

/-- ITS FALSE NEIGHBOUR: 'it returns false'. Refute it at one input. -/
def fnExactKnownOfWrong : ChangeSpec := { name := "fnExactKnownOf", fn := fun _ => fun
  | [d1, d2] => { results := [.lit (.bool false)], args := [d1, d2] }
  | _ => none }
def FnExactKnownOfWrongFalsely : Prop := fnExactKnownOfRow.holds Try.pinned (OpenSpec.ofChange fnExactKnownOfWrong)

/-- 'laws.FnExactAddGrease': WHATEVER THE INPUT: true; the input reads as it did. -/
def fnExactAddGreaseSpec : ChangeSpec := { name := "fnExactAddGrease", fn := fun _ => fun
  | [d1, d2] => { results := [.lit (.bool true)], args := [d1, d2] }
  | _ => none }
def fnExactAddGreaseRow : OpenClaim := { program := "ytgkacnngodamgaa", sum := "6e8b0a8781be30e3db0bfbb9744bae016c5462b4ac0365e7d14be5d38896d242", func := "loop.example/g03000/laws.FnExactAddGrease", spec := "fnExactAddGrease", unfollowed := true, recurses := true, apart := false }
def FnExactAddGreaseSaid : Prop := fnExactAddGreaseRow.holds Try.pinned (OpenSpec.ofChange fnExactAddGreaseSpec)

/-- ITS FALSE NEIGHBOUR: 'it returns false'. Refute it at one input. -/
def fnExactAddGreaseWrong : ChangeSpec := { name := "fnExactAddGrease", fn := fun _ => fun
  | [d1, d2] => { results := [.lit (.bool false)], args := [d1, d2] }
  | _ => none }
def FnExactAddGreaseWrongFalsely : Prop := fnExactAddGreaseRow.holds Try.pinned (OpenSpec.ofChange fnExactAddGreaseWrong)

/-- 'laws.FnExactStripGrease': WHATEVER THE INPUT: true; the input reads as it did. -/
def fnExactStripGreaseSpec : ChangeSpec := { name := "fnExactStripGrease", fn := fun _ => fun
  | [d] => { results := [.lit (.bool true)], args := [d] }
  | _ => none }
def fnExactStripGreaseRow : OpenClaim := { program := "ytgkacnngodamgaa", sum := "6e8b0a8781be30e3db0bfbb9744bae016c5462b4ac0365e7d14be5d38896d242", func := "loop.example/g03000/laws.FnExactStripGrease", spec := "fnExactStripGrease", unfollowed := true, recurses := true, apart := false }
def FnExactStripGreaseSaid : Prop := fnExactStripGreaseRow.holds Try.pinned (OpenSpec.ofChange fnExactStripGreaseSpec)

/-- ITS FALSE NEIGHBOUR: 'it returns false'. Refute it at one input. -/
def fnExactStripGreaseWrong : ChangeSpec := { name := "fnExactStripGrease", fn := fun _ => fun
  | [d] => { results := [.lit (.bool false)], args := [d] }
  | _ => none }
def FnExactStripGreaseWrongFalsely : Prop := fnExactStripGreaseRow.holds Try.pinned (OpenSpec.ofChange fnExactStripGreaseWrong)

/- THE SECOND FORM. 'bulk': how many values and letters a reading holds, each counted each time it is reached (what is shared counts as often as it is met; a slice's spare places count too). A statement '..UptoSaid' is the law's where the arguments, and the package variables that the reading takes, are together of bulk at most 1048576: NARROWER than '..Said'. Prove '..Said' where nothing that the law and all that it calls make is longer than what came in: it says more and counts as full. Else prove '..UptoSaid'. A law counts once. -/
mutual
def uptoBulk {H : Type} : DataW H → Nat
  | .lit (.string bytes) => bytes.length + 1
  | .lit _ => 1
  | .nil => 1
  | .ptr d => uptoBulk d + 1
  | .slice elems spare => uptoBulkAll elems + uptoBulkAll spare + 1
  | .agg parts => uptoBulkAll parts + 1
  | .iface _ d => uptoBulk d + 1
  | .map entries => uptoBulkEntries entries + 1
  | .held _ => 1
def uptoBulkAll {H : Type} : List (DataW H) → Nat
  | [] => 0
  | d :: r => uptoBulk d + uptoBulkAll r
def uptoBulkEntries {H : Type} : List (Lit × DataW H) → Nat
  | [] => 0
  | x :: r => uptoBulkEntry x + uptoBulkEntries r
def uptoBulkEntry {H : Type} : Lit × DataW H → Nat
  | (.string bytes, d) => bytes.length + uptoBulk d + 1
  | (_, d) => uptoBulk d + 1
 end
def uptoSmall : (H : Type) → List (DataW H) → Bool := fun _ ds => decide (uptoBulkAll ds ≤ 1048576)
def OpenSpec.upto (s : _root_.Go.ChangeSpec) : _root_.Go.OpenSpec := { _root_.Go.OpenSpec.ofChange s with cond := some uptoSmall }

/-- 'laws.FnExts', WHERE WHAT IT READS IS OF BULK AT MOST 1048576: true; the input reads as it did. -/
def fnExtsUptoRow : OpenClaim := { program := "ytgkacnngodamgaa", sum := "6e8b0a8781be30e3db0bfbb9744bae016c5462b4ac0365e7d14be5d38896d242", func := "loop.example/g03000/laws.FnExts", spec := "fnExts", unfollowed := true, recurses := true, apart := false, narrowed := true }
def FnExtsUptoSaid : Prop := fnExtsUptoRow.holds Try.pinned (OpenSpec.upto fnExtsSpec)

/-- 'laws.FnGrease', WHERE WHAT IT READS IS OF BULK AT MOST 1048576: true; the input reads as it did. -/
def fnGreaseUptoRow : OpenClaim := { program := "ytgkacnngodamgaa", sum := "6e8b0a8781be30e3db0bfbb9744bae016c5462b4ac0365e7d14be5d38896d242", func := "loop.example/g03000/laws.FnGrease", spec := "fnGrease", unfollowed := true, recurses := true, apart := false, narrowed := true }
def FnGreaseUptoSaid : Prop := fnGreaseUptoRow.holds Try.pinned (OpenSpec.upto fnGreaseSpec)

/-- 'laws.FnExactKnownOf', WHERE WHAT IT READS IS OF BULK AT MOST 1048576: true; the input reads as it did. -/
def fnExactKnownOfUptoRow : OpenClaim := { program := "ytgkacnngodamgaa", sum := "6e8b0a8781be30e3db0bfbb9744bae016c5462b4ac0365e7d14be5d38896d242", func := "loop.example/g03000/laws.FnExactKnownOf", spec := "fnExactKnownOf", unfollowed := true, recurses := true, apart := false, narrowed := true }
def FnExactKnownOfUptoSaid : Prop := fnExactKnownOfUptoRow.holds Try.pinned (OpenSpec.upto fnExactKnownOfSpec)

/-- 'laws.FnExactAddGrease', WHERE WHAT IT READS IS OF BULK AT MOST 1048576: true; the input reads as it did. -/
def fnExactAddGreaseUptoRow : OpenClaim := { program := "ytgkacnngodamgaa", sum := "6e8b0a8781be30e3db0bfbb9744bae016c5462b4ac0365e7d14be5d38896d242", func := "loop.example/g03000/laws.FnExactAddGrease", spec := "fnExactAddGrease", unfollowed := true, recurses := true, apart := false, narrowed := true }
def FnExactAddGreaseUptoSaid : Prop := fnExactAddGreaseUptoRow.holds Try.pinned (OpenSpec.upto fnExactAddGreaseSpec)

/-- 'laws.FnExactStripGrease', WHERE WHAT IT READS IS OF BULK AT MOST 1048576: true; the input reads as it did. -/
def fnExactStripGreaseUptoRow : OpenClaim := { program := "ytgkacnngodamgaa", sum := "6e8b0a8781be30e3db0bfbb9744bae016c5462b4ac0365e7d14be5d38896d242", func := "loop.example/g03000/laws.FnExactStripGrease", spec := "fnExactStripGrease", unfollowed := true, recurses := true, apart := false, narrowed := true }
def FnExactStripGreaseUptoSaid : Prop := fnExactStripGreaseUptoRow.holds Try.pinned (OpenSpec.upto fnExactStripGreaseSpec)

end Rows
end Go.Proofs.Ytgkacnngodamgaa
