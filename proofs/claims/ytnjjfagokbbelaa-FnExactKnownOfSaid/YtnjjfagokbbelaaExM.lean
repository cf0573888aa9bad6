/- Chapter 9 by the program and by the model: what the exact laws take. -/
import Derived.Test.YtnjjfagokbbelaaExM3
import Derived.Test.YtnjjfagokbbelaaExM4
import Derived.Test.YtnjjfagokbbelaaExM5
namespace Go.Proofs.Ytnjjfagokbbelaa
open Go.ChangeShapes Go.WideShapes Go.ChangeAt Go.RowKit
set_option linter.unusedVariables false

theorem told_same {P : Program} {f : Nat} {args : Array Value} {v : Value} {w : World} (h : Calls P f args w fun e w' => e = .returned v ∧ w = w') : Calls P f args w (Told v w) :=
  h.mono fun e w' ⟨e1, e2⟩ => ⟨e1, by rw [← e2]; exact Below.refl _ _⟩
theorem tags_ok {l : List Vl} (h : ∀ x ∈ l, x.wf) : ∀ z ∈ tagsX l, (Lit.int .i64 z).wf = true := by
  intro z hz
  obtain ⟨x, hx, rfl⟩ := List.mem_map.1 hz
  exact (h x hx).1
end Go.Proofs.Ytnjjfagokbbelaa
