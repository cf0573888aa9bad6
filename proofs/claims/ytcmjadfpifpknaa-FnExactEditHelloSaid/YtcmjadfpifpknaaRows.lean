/-
  No cell of these rows narrows 'for every input' (looked for: loops, veiled, ifaces, maps, wideKeys, modest, calm, conditions, laid).
  DERIVED. THE GIVEN ROWS OF THIS SEAT. 3 by the template 'for every input the law returns true; each argument reads behind the call as it read before'; 0 by the template 'total and deterministic' (their statements: YtcmjadfpifpknaaTotals.lean).
  GIVEN WITH THE SEED: the statements are not yours to turn. If you find one false, say at which input.
  Laid BY PROGRAM, IN A SANDBOX (cutbox-rows.mjs): the forced cells as the released guide's own fill.sh prints them over the translation 77dfd478cf4657d4… (all of the seat's roots in one cut). By AI agents, Wed Nov 11 2026. No macro, syntax, notation, axiom, sorry.
-/
import Derived.Test.YtcmjadfpifpknaaChecked
import GoSem.Claim
import GoSem.ClaimJoined
import GoSem.ClaimMapViews
import Derived.JoinedTies
import Derived.KernelRfl
namespace Go.Proofs.Ytcmjadfpifpknaa
/- THE CELL 'sum', in the pinned program and in every row, IS THE sha256 OF THE DUMP (.gsa) THAT YtcmjadfpifpknaaProg.lean LOADS. Nothing in Lean hashes anything: it is a label: what it is worth is what the hold of that sum in a sandbox is worth. -/
noncomputable def Try.pinned : Pinned := { name := "ytcmjadfpifpknaa", sum := "77dfd478cf4657d4c5dd13bef3fa7ae83b343d4a97717adc98bab8dab10bf5cf", checked := Try.checked }
namespace Rows
def none {H : Type} : Left H := { results := [], args := [] }

/-- 'laws.FnExactEditHello': WHATEVER THE INPUT: true; the input reads as it did. -/
def fnExactEditHelloSpec : ChangeSpec := { name := "fnExactEditHello", fn := fun _ => fun
  | [d1, d2] => { results := [.lit (.bool true)], args := [d1, d2] }
  | _ => none }
def fnExactEditHelloRow : OpenClaim := { program := "ytcmjadfpifpknaa", sum := "77dfd478cf4657d4c5dd13bef3fa7ae83b343d4a97717adc98bab8dab10bf5cf", func := "loop.example/g03000/laws.FnExactEditHello", spec := "fnExactEditHello", unfollowed := true, recurses := true, apart := false }
def FnExactEditHelloSaid : Prop := fnExactEditHelloRow.holds Try.pinned (OpenSpec.ofChange fnExactEditHelloSpec)

/-- ITS FALSE NEIGHBOUR: 'it returns false'. Refute it at one input. -/
def fnExactEditHelloWrong : ChangeSpec := { name := "fnExactEditHello", fn := fun _ => fun
  | [d1, d2] => { results := [.lit (.bool false)], args := [d1, d2] }
  | _ => none }
def FnExactEditHelloWrongFalsely : Prop := fnExactEditHelloRow.holds Try.pinned (OpenSpec.ofChange fnExactEditHelloWrong)

/-- 'laws.FnExactEditAnswer': WHATEVER THE INPUT: true; the input reads as it did. -/
def fnExactEditAnswerSpec : ChangeSpec := { name := "fnExactEditAnswer", fn := fun _ => fun
  | [d1, d2] => { results := [.lit (.bool true)], args := [d1, d2] }
  | _ => none }
def fnExactEditAnswerRow : OpenClaim := { program := "ytcmjadfpifpknaa", sum := "77dfd478cf4657d4c5dd13bef3fa7ae83b343d4a97717adc98bab8dab10bf5cf", func := "loop.example/g03000/laws.FnExactEditAnswer", spec := "fnExactEditAnswer", unfollowed := true, recurses := true, apart := false }
def FnExactEditAnswerSaid : Prop := fnExactEditAnswerRow.holds Try.pinned (OpenSpec.ofChange fnExactEditAnswerSpec)

/-- ITS FALSE NEIGHBOUR: 'it returns false'. Refute it at one input. -/
def fnExactEditAnswerWrong : ChangeSpec := { name := "fnExactEditAnswer", fn := fun _ => fun
  | [d1, d2] => { results := [.lit (.bool false)], args := [d1, d2] }
  | _ => none }
def FnExactEditAnswerWrongFalsely : Prop := fnExactEditAnswerRow.holds Try.pinned (OpenSpec.ofChange fnExactEditAnswerWrong)

/-- 'laws.FnExactEqualDeals': WHATEVER THE INPUT: true; the input reads as it did. -/
def fnExactEqualDealsSpec : ChangeSpec := { name := "fnExactEqualDeals", fn := fun _ => fun
  | [d1, d2] => { results := [.lit (.bool true)], args := [d1, d2] }
  | _ => none }
def fnExactEqualDealsRow : OpenClaim := { program := "ytcmjadfpifpknaa", sum := "77dfd478cf4657d4c5dd13bef3fa7ae83b343d4a97717adc98bab8dab10bf5cf", func := "loop.example/g03000/laws.FnExactEqualDeals", spec := "fnExactEqualDeals", apart := false }
def FnExactEqualDealsSaid : Prop := fnExactEqualDealsRow.holds Try.pinned (OpenSpec.ofChange fnExactEqualDealsSpec)

/-- ITS FALSE NEIGHBOUR: 'it returns false'. Refute it at one input. -/
def fnExactEqualDealsWrong : ChangeSpec := { name := "fnExactEqualDeals", fn := fun _ => fun
  | [d1, d2] => { results := [.lit (.bool false)], args := [d1, d2] }
  | _ => none }
def FnExactEqualDealsWrongFalsely : Prop := fnExactEqualDealsRow.holds Try.pinned (OpenSpec.ofChange fnExactEqualDealsWrong)

/- THE SECOND FORM. 'bulk': how many values and letters a reading holds, each counted each time it is reached (what is shared counts as often as it is met; a slice's spare places count too). A statement '..UptoSaid' is the law's where the arguments, and the package variables that the reading takes, are together of bulk at most 1048576: NARROWER than '..Said'. Prove '..Said' where nothing that the law and all that it calls make is longer than what came in: it says more and counts as full. Else prove '..UptoSaid'. A law counts once. -/
mutual
def uptoBulk {H : Type} : DataW H → Nat
  | .lit (.string bytes) => bytes.length + 1
  | .lit _ => 1
  | .nil => 1
  | .ptr d => uptoBulk d + 1
  | .slice elems spare => uptoBulkAll elems + uptoBulkAll spare + 1
  | .agg parts => uptoBulkAll parts + 1
  | .iface _ d => uptoBulk d + 1
  | .map entries => uptoBulkEntries entries + 1
  | .held _ => 1
def uptoBulkAll {H : Type} : List (DataW H) → Nat
  | [] => 0
  | d :: r => uptoBulk d + uptoBulkAll r
def uptoBulkEntries {H : Type} : List (Lit × DataW H) → Nat
  | [] => 0
  | x :: r => uptoBulkEntry x + uptoBulkEntries r
def uptoBulkEntry {H : Type} : Lit × DataW H → Nat
  | (.string bytes, d) => bytes.length + uptoBulk d + 1
  | (_, d) => uptoBulk d + 1
 end
def uptoSmall : (H : Type) → List (DataW H) → Bool := fun _ ds => decide (uptoBulkAll ds ≤ 1048576)
def OpenSpec.upto (s : _root_.Go.ChangeSpec) : _root_.Go.OpenSpec := { _root_.Go.OpenSpec.ofChange s with cond := some uptoSmall }

/-- 'laws.FnExactEditHello', WHERE WHAT IT READS IS OF BULK AT MOST 1048576: true; the input reads as it did. -/
def fnExactEditHelloUptoRow : OpenClaim := { program := "ytcmjadfpifpknaa", sum := "77dfd478cf4657d4c5dd13bef3fa7ae83b343d4a97717adc98bab8dab10bf5cf", func := "loop.example/g03000/laws.FnExactEditHello", spec := "fnExactEditHello", unfollowed := true, recurses := true, apart := false, narrowed := true }
def FnExactEditHelloUptoSaid : Prop := fnExactEditHelloUptoRow.holds Try.pinned (OpenSpec.upto fnExactEditHelloSpec)

/-- 'laws.FnExactEditAnswer', WHERE WHAT IT READS IS OF BULK AT MOST 1048576: true; the input reads as it did. -/
def fnExactEditAnswerUptoRow : OpenClaim := { program := "ytcmjadfpifpknaa", sum := "77dfd478cf4657d4c5dd13bef3fa7ae83b343d4a97717adc98bab8dab10bf5cf", func := "loop.example/g03000/laws.FnExactEditAnswer", spec := "fnExactEditAnswer", unfollowed := true, recurses := true, apart := false, narrowed := true }
def FnExactEditAnswerUptoSaid : Prop := fnExactEditAnswerUptoRow.holds Try.pinned (OpenSpec.upto fnExactEditAnswerSpec)

/-- 'laws.FnExactEqualDeals', WHERE WHAT IT READS IS OF BULK AT MOST 1048576: true; the input reads as it did. -/
def fnExactEqualDealsUptoRow : OpenClaim := { program := "ytcmjadfpifpknaa", sum := "77dfd478cf4657d4c5dd13bef3fa7ae83b343d4a97717adc98bab8dab10bf5cf", func := "loop.example/g03000/laws.FnExactEqualDeals", spec := "fnExactEqualDeals", apart := false, narrowed := true }
def FnExactEqualDealsUptoSaid : Prop := fnExactEqualDealsUptoRow.holds Try.pinned (OpenSpec.upto fnExactEqualDealsSpec)

end Rows
end Go.Proofs.Ytcmjadfpifpknaa
