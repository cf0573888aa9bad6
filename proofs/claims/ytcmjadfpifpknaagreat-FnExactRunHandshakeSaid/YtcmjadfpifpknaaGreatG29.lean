/- The parts of an extension, and an extension, read off the cursor: by the program. Extensions read off the cursor, one behind the other, and a list of integers decoded: by the program. A list of integers is decoded into extensions: by the model. Chapter 9 by the program and by the model: what the exact laws take. -/
import Derived.Test.YtcmjadfpifpknaaGreatG9
import Derived.Test.YtcmjadfpifpknaaGreatG10
import Derived.Test.YtcmjadfpifpknaaGreatG6
import Derived.Test.YtcmjadfpifpknaaGreatG16
import Derived.Deep.RegionHeld3
import Derived.Test.YtcmjadfpifpknaaGreatG27
import Derived.Test.YtcmjadfpifpknaaGreatG28
namespace Go.Proofs.YtcmjadfpifpknaaGreat
open Go.ChangeShapes Go.WideShapes Go.ChangeAt Go.RowKit
set_option linter.unusedVariables false
set_option linter.unusedSimpArgs false

/-- What is left by a part that is not read, by a number that is, by a body that is. -/
def PtNo (g : Nat) (w : World) (e : Ending) (w' : World) : Prop := e = .returned .nilIface ∧ w.grownBy w' (some g)
theorem is_int (z : Int) (w : World) : (Instr.typeAssert (.iface 3 (.int .i64 z)) 20 3 true).run Tryz.prog w = .ok (.tuple #[.int .i64 z, .bool true]) w := by kernel_rfl
theorem is_row (p : Option Addr) (q r : Nat) (w : World) : (Instr.typeAssert (.iface 24 (.slice p q r)) 20 24 true).run Tryz.prog w = .ok (.tuple #[.slice p q r, .bool true]) w := by kernel_rfl
theorem not_int (w : World) : (Instr.typeAssert .nilIface 20 3 true).run Tryz.prog w = .ok (.tuple #[.int .i64 0, .bool false]) w := by kernel_rfl
theorem not_row (w : World) : (Instr.typeAssert .nilIface 20 24 true).run Tryz.prog w = .ok (.tuple #[.slice none 0 0, .bool false]) w := by kernel_rfl
end Go.Proofs.YtcmjadfpifpknaaGreat
namespace Go.Proofs.YtcmjadfpifpknaaGreat
open Go.ChangeShapes Go.WideShapes Go.ChangeAt Go.RowKit
set_option linter.unusedVariables false
set_option linter.unusedSimpArgs false

theorem rdXs_stop {b : List Int} {j : Nat} (h : rdXs b j = none) : ∀ q, j ≤ q → rdXs b q = none
  | 0, hq => by
    obtain rfl : j = 0 := by omega
    exact h
  | q + 1, hq => by
    by_cases e : j = q + 1
    · rw [← e]; exact h
    · rw [rdXs, rdXs_stop h q (by omega)]
theorem rdXs_step {b : List Int} {j k : Nat} {l : List Vl} (h : rdXs b j = some (l, k)) : rdXs b (j + 1) = (rdX b k).map fun p => (l ++ [p.1], p.2) := by rw [rdXs, h]
theorem grown_then {n : Nat} {w W w' : World} {row : Option Nat} (h : w.grownBy W row) (hb : Below n W w') (hn : w.heap.size ≤ n) (hs : n ≤ W.heap.size) : w.grownBy w' row :=
  ⟨hb.os.trans h.os, hb.tape.trans h.tape, hb.output.trans h.output, Nat.le_trans h.size hb.size, fun i hi hr => (hb.block i (by omega)).trans (h.block i hi hr)⟩
def decL (y : List Int) : List Vl := (decX y).getD []
def decOk (y : List Int) : Bool := (decX y).isSome
theorem dec_none {y : List Int} (h : decX y = none) : decL y = [] ∧ decOk y = false := by unfold decL decOk; rw [h]; exact ⟨rfl, rfl⟩
theorem dec_some {y : List Int} {l : List Vl} (h : decX y = some l) : decL y = l ∧ decOk y = true := by unfold decL decOk; rw [h]; exact ⟨rfl, rfl⟩
theorem decL_few (y : List Int) : (decL y).length ≤ 6 ∧ itemsOf (decL y) ≤ 24 := by
  cases h : decX y with
  | none => rw [(dec_none h).1]; simp [itemsOf]
  | some l => rw [(dec_some h).1]; exact decX_few h
/-- What is left by a function that decodes extensions. -/
def DxTold (tO tI : TypeId) (y : List Int) (w : World) (e : Ending) (w' : World) : Prop :=
  ∃ q n c, e = .returned (.tuple #[.slice q n c, .bool (decOk y)]) ∧ OwnV tO tI w' w.heap.size q n c (decL y) ∧ Below w.heap.size w w'
end Go.Proofs.YtcmjadfpifpknaaGreat
namespace Go.Proofs.YtcmjadfpifpknaaGreat
open Go.ChangeShapes Go.WideShapes Go.ChangeAt Go.RowKit
set_option linter.unusedVariables false
set_option linter.unusedSimpArgs false

theorem codesX_pre : ∀ (out l : List Vl) (r : List Int), codesX l = codesX out ++ r → ∃ l', l = out ++ l' ∧ r = codesX l'
  | [], l, r, h => ⟨l, rfl, by simpa [codesX] using h.symm⟩
  | x :: o, [], r, h => by simp [codesX, codeX] at h
  | x :: o, z :: l, r, h => by
    obtain ⟨xn, xi⟩ := x
    obtain ⟨zn, zi⟩ := z
    rw [codesX_cons, codesX_cons] at h
    simp only [codeX, List.cons_append, List.append_assoc, List.cons.injEq] at h
    obtain ⟨rfl, h2, h3⟩ := h
    have hl : zi.length = xi.length := by omega
    obtain ⟨rfl, h4⟩ := List.append_inj h3 hl
    obtain ⟨l', rfl, h5⟩ := codesX_pre o l r h4
    exact ⟨l', rfl, h5⟩
/-- What stands behind what was read decides. -/
theorem decX_behind {y : List Int} {k : Nat} {c : Int} {out : List Vl} (hk : y.take k = c :: codesX out) {l : List Vl} (h : decX y = some l) : c = (l.length : Int) ∧ ∃ l', l = out ++ l' ∧ y.drop k = codesX l' := by
  have h2 := (decX_iff.1 h).2
  have h3 : encX l = (c :: codesX out) ++ y.drop k := by rw [← h2, ← hk, List.take_append_drop]
  unfold encX at h3
  simp only [List.cons_append, List.cons.injEq] at h3
  obtain ⟨l', h4, h5⟩ := codesX_pre out l _ h3.2
  exact ⟨h3.1.symm, l', h4, h5⟩
theorem dec_bad {y : List Int} {k : Nat} {c z : Int} {out : List Vl} (hk : y.take k = c :: codesX out) (h1 : k + 1 < y.length) (hz : y[k + 1]? = some z) (h : ¬ (0 ≤ z ∧ z ≤ (y.length : Int) - k - 2)) : decX y = none := by
  cases e : decX y with
  | none => rfl
  | some l =>
    exfalso
    obtain ⟨_, l', _, h5⟩ := decX_behind hk e
    have hl := congrArg List.length h5
    rw [List.length_drop, codesX_len] at hl
    have hz2 : (y.drop k)[1]? = some z := by rw [List.getElem?_drop]; exact hz
    rw [h5] at hz2
    cases l' with
    | nil => simp [codesX] at hz2
    | cons x t =>
      rw [codesX_cons] at hz2 h5
      have hx : z = (x.items.length : Int) := by
        simp [codeX] at hz2
        exact hz2.symm
      have h6 := congrArg List.length h5
      rw [List.length_drop, List.length_append, codeX_len] at h6
      omega
theorem dec_odd {y : List Int} {k : Nat} {c : Int} {out : List Vl} (hk : y.take k = c :: codesX out) (h1 : k + 1 = y.length) : decX y = none := by
  cases e : decX y with
  | none => rfl
  | some l =>
    exfalso
    obtain ⟨_, l', _, h5⟩ := decX_behind hk e
    have hl := congrArg List.length h5
    rw [List.length_drop, codesX_len] at hl
    cases l' with
    | nil => simp [itemsOf] at hl; omega
    | cons x t => simp at hl; omega
theorem dec_all {y : List Int} {c : Int} {out : List Vl} (hk : y = c :: codesX out) : decX y = if c = (out.length : Int) ∧ areX out = true then some out else none := by
  by_cases h : c = (out.length : Int) ∧ areX out = true
  · rw [if_pos h, decX_iff]
    exact ⟨h.2, by rw [hk, h.1]; rfl⟩
  · rw [if_neg h]
    cases e : decX y with
    | none => rfl
    | some l =>
      exfalso
      obtain ⟨h1, l', h4, h5⟩ := decX_behind (k := y.length) (by rw [List.take_length]; exact hk) e
      rw [List.drop_length] at h5
      have hl' : l' = [] := by
        cases l' with
        | nil => rfl
        | cons x t => rw [codesX_cons] at h5; simp [codeX] at h5
      rw [hl', List.append_nil] at h4
      subst h4
      exact h ⟨h1, (decX_iff.1 e).1⟩
theorem dec_step {y : List Int} {k q : Nat} {c t : Int} {out : List Vl} (hk : y.take k = c :: codesX out) (ht : y[k]? = some t) (hz : y[k + 1]? = some (q : Int)) (h : k + 2 + q ≤ y.length) : y.take (k + 2 + q) = c :: codesX (out ++ [⟨t, (y.drop (k + 2)).take q⟩]) := by
  have h1 : y.take (k + 2) = y.take k ++ [t, (q : Int)] := by
    rw [List.take_add_one, List.take_add_one, ht, hz]
    simp
  have h2 : y.take (k + 2 + q) = y.take (k + 2) ++ (y.drop (k + 2)).take q := by rw [List.take_add]
  rw [h2, h1, hk, codesX_app, codesX_one]
  have hl : ((y.drop (k + 2)).take q).length = q := by rw [List.length_take, List.length_drop]; omega
  simp [codeX, hl]
end Go.Proofs.YtcmjadfpifpknaaGreat
namespace Go.Proofs.YtcmjadfpifpknaaGreat
open Go.ChangeShapes Go.WideShapes Go.ChangeAt Go.RowKit
set_option linter.unusedVariables false

theorem told_same {P : Program} {f : Nat} {args : Array Value} {v : Value} {w : World} (h : Calls P f args w fun e w' => e = .returned v ∧ w = w') : Calls P f args w (Told v w) :=
  h.mono fun e w' ⟨e1, e2⟩ => ⟨e1, by rw [← e2]; exact Below.refl _ _⟩
theorem tags_ok {l : List Vl} (h : ∀ x ∈ l, x.wf) : ∀ z ∈ tagsX l, (Lit.int .i64 z).wf = true := by
  intro z hz
  obtain ⟨x, hx, rfl⟩ := List.mem_map.1 hz
  exact (h x hx).1
end Go.Proofs.YtcmjadfpifpknaaGreat
