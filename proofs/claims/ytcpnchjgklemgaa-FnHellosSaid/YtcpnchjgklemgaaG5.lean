/- The helpers of the exact laws at lists of fields: copied, compared. The kinds of fields, and the greatest Max of each; being in a range. Being a format: by the program and by its model. Being a format, by the program. -/
import Derived.Test.YtcpnchjgklemgaaG2
import Derived.Deep.QuietTactic
import Derived.BigQuiet
import Derived.RegionTactic
import Derived.StillTailTactics
import Derived.Handy
import Derived.Deep.RegionHeld3
namespace Go.Proofs.Ytcpnchjgklemgaa
open Go.ChangeShapes Go.WideShapes Go.ChangeAt Go.RowKit
set_option linter.unusedVariables false

theorem infoFieldS : (Try.prog.info? 134).map (fun i => (i.zero, i.size, i.bytes)) = some (some (.agg #[.int .i64 0, .int .i64 0, .int .i64 0, .int .i64 0]), 4, 32) := by kernel_rfl

theorem set4 (A : List Value) (p : Nat) (hA : A.length = p) (a b c d : Value) (R : List Value) (v0 v1 v2 v3 : Value) :
    ((((A ++ a :: b :: c :: d :: R).set p v0).set (p + 1) v1).set (p + 2) v2).set (p + 3) v3 = A ++ v0 :: v1 :: v2 :: v3 :: R := by
  subst hA
  rw [List.set_append_right _ _ (Nat.le_refl _), Nat.sub_self, List.set_cons_zero, List.set_append_right _ _ (by omega), List.set_append_right _ _ (by omega), List.set_append_right _ _ (by omega)]
  simp [show A.length + 1 - A.length = 1 by omega, show A.length + 2 - A.length = 2 by omega, show A.length + 3 - A.length = 3 by omega]
def zeroCell : Value := .int .i64 0
def fillF (l : List Fd) (j n : Nat) : List Value := flatOf Fd.enc (l.take j) ++ List.replicate ((n - j) * 4) zeroCell
theorem fillF_zero (l : List Fd) (n : Nat) : fillF l 0 n = List.replicate (n * 4) zeroCell := by simp [fillF, flatOf]
theorem fillF_all (l : List Fd) (n : Nat) (h : l.length = n) : fillF l n n = flatOf Fd.enc l := by
  unfold fillF
  rw [List.take_of_length_le (by omega), Nat.sub_self]
  simp
theorem fillF_step {l : List Fd} {j n : Nat} {x : Fd} (hj : l[j]? = some x) (hn : l.length = n) :
    ((((fillF l j n).set (j * 4) (.int .i64 x.kind)).set (j * 4 + 1) (.int .i64 x.max)).set (j * 4 + 2) (.int .i64 x.cond)).set (j * 4 + 3) (.int .i64 x.is) = fillF l (j + 1) n := by
  have hlt : j < l.length := by
    rcases Nat.lt_or_ge j l.length with h | h
    · exact h
    · rw [List.getElem?_eq_none h] at hj; cases hj
  unfold fillF
  rw [show (n - j) * 4 = (n - (j + 1)) * 4 + 1 + 1 + 1 + 1 by omega, List.replicate_succ, List.replicate_succ, List.replicate_succ, List.replicate_succ, set4 _ (j * 4) (by rw [flatOf_len Fd.enc_len, List.length_take]; omega), List.take_add_one, hj]
  simp [flatOf, Fd.enc]
theorem fillF_len {l : List Fd} {j n : Nat} (hn : l.length = n) (hj : j ≤ n) : (fillF l j n).length = n * 4 := by
  unfold fillF
  rw [List.length_append, flatOf_len Fd.enc_len, List.length_take, List.length_replicate]
  omega
theorem made4 (n : Nat) : (madeCells (Value.agg #[.int .i64 0, .int .i64 0, .int .i64 0, .int .i64 0]).cells (n * 4)).toList = List.replicate (n * 4) zeroCell := by
  apply List.ext_getElem
  · simp [madeCells]
  · intro i h1 h2
    simp only [madeCells, Value.cells, List.getElem_replicate, Array.getElem_toList, Array.getElem_map, Array.getElem_range]
    have : i % 4 < 4 := Nat.mod_lt _ (by omega)
    show (#[zeroCell, zeroCell, zeroCell, zeroCell] : Array Value)[i % 4]! = zeroCell
    match i % 4, this with
    | 0, _ => rfl
    | 1, _ => rfl
    | 2, _ => rfl
    | 3, _ => rfl

/-- Cells in a row of the call's own are there, whatever they hold. -/
theorem row_cell {w : World} {B : Nat} {t : TypeId} {s g n cap : Nat} {xs : List Value} (h : w.ownsRow B t s (.slice (some ⟨g, 0, none⟩) n cap) n xs) {k : Nat} (hk : k < n * s) : ∃ u, w.cell? ⟨g, k, none⟩ = some u := by
  rw [h.cellAt k hk]
  have : k < xs.length := by rw [h.1]; exact hk
  exact ⟨_, List.getElem?_eq_getElem this⟩

end Go.Proofs.Ytcpnchjgklemgaa
namespace Go.Proofs.Ytcpnchjgklemgaa
open Go.ChangeShapes Go.WideShapes Go.ChangeAt Go.RowKit
set_option linter.unusedVariables false

theorem inR_any (n l h : Int) (w : World) :
    Calls Try.prog 119 #[.int .i64 n, .int .i64 l, .int .i64 h] w fun e w' => e = .returned (.bool (decide (l ≤ n ∧ n ≤ h))) ∧ w = w' := by
  by_cases h1 : l ≤ n <;> by_cases h2 : n ≤ h <;> (go_enter Try.func119, Try.ntmps119; go_wp2; go_ret; exact ⟨by simp [h1, h2], rfl⟩)
theorem l1R_any (n l h : Int) (w : World) :
    Calls Try.prog 81 #[.int .i64 n, .int .i64 l, .int .i64 h] w fun e w' => e = .returned (.bool (decide (l ≤ n ∧ n ≤ h))) ∧ w = w' := by
  by_cases h1 : l ≤ n <;> by_cases h2 : n ≤ h <;> (go_enter Try.func81, Try.ntmps81; go_wp2; go_ret; exact ⟨by simp [h1, h2], rfl⟩)

/-- A kind's name. -/
def nameOf (k : Int) : List UInt8 := if k = 1 then [110, 117, 109] else if k = 2 then [116, 101, 120, 116] else if k = 3 then [108, 105, 115, 116] else []
/-- A kind's greatest Max. -/
def mostOf (k : Int) : Int := if k = 1 then 99 else if k = 2 then 5 else if k = 3 then 5 else 0
/-- The value that stands for a kind. -/
def typeVal (k : Int) : Value := if k = 1 then .iface 147 (.agg #[]) else if k = 2 then .iface 148 (.agg #[]) else if k = 3 then .iface 150 (.agg #[]) else .iface 157 (.agg #[])

set_option maxRecDepth 100000 in
theorem typeOf_any (k : Int) (w : World) : Calls Try.prog 129 #[.int .i64 k] w fun e w' => e = .returned (typeVal k) ∧ w = w' := by
  by_cases h1 : k = 1
  · subst h1
    go_enter Try.func129, Try.ntmps129
    go_wp2
    go_ret
    exact ⟨rfl, rfl⟩
  · by_cases h2 : k = 2
    · subst h2
      go_enter Try.func129, Try.ntmps129
      go_wp2
      go_ret
      exact ⟨rfl, rfl⟩
    · by_cases h3 : k = 3
      · subst h3
        go_enter Try.func129, Try.ntmps129
        go_wp2
        go_ret
        exact ⟨rfl, rfl⟩
      · have e1 : (k == 1) = false := by simpa using h1
        have e2 : (k == 2) = false := by simpa using h2
        have e3 : (k == 3) = false := by simpa using h3
        go_enter Try.func129, Try.ntmps129
        go_wp2
        go_ret
        exact ⟨by simp [typeVal, h1, h2, h3], rfl⟩

end Go.Proofs.Ytcpnchjgklemgaa
namespace Go.Proofs.Ytcpnchjgklemgaa
open Go.ChangeShapes Go.WideShapes Go.ChangeAt Go.RowKit
set_option linter.unusedVariables false

theorem beq_dec (x y : Int) : (x == y) = decide (x = y) := by by_cases h : x = y <;> simp [h]
/-- The condition of a field behind the fields l looks back at a number that is there always, and at a value that it can have. -/
def condOk (l : List Fd) (x : Fd) : Bool :=
  if x.cond = -1 then decide (x.is = 0)
  else decide (0 ≤ x.cond ∧ x.cond ≤ (l.length : Int) - 1) && (match l[x.cond.toNat]? with
    | some g => decide (g.kind = 1) && decide (g.cond = -1) && decide (0 ≤ x.is ∧ x.is ≤ g.max)
    | none => false)
def fieldOk (l : List Fd) (x : Fd) : Bool := decide (1 ≤ x.max ∧ x.max ≤ mostOf x.kind) && condOk l x
/-- The first j fields are as they must be. -/
def okTo (l : List Fd) (j : Nat) : Prop := ∀ i x, i < j → l[i]? = some x → fieldOk (l.take i) x = true
def IsFmt (l : List Fd) : Prop := (1 ≤ l.length ∧ l.length ≤ 6) ∧ okTo l l.length
noncomputable def isFmt (l : List Fd) : Bool := @decide (IsFmt l) (Classical.propDecidable _)

end Go.Proofs.Ytcpnchjgklemgaa
namespace Go.Proofs.Ytcpnchjgklemgaa
open Go.ChangeShapes Go.WideShapes Go.ChangeAt Go.RowKit
set_option linter.unusedVariables false
set_option linter.unusedSimpArgs false

theorem cell_kept {w w' : World} {a : Addr} {v : Value} (h : w.cell? a = some v) (hb : Below w.heap.size w w') : w'.cell? a = some v := by
  rw [hb.cell (cell_in h)]; exact h
theorem typeNum (w : World) : Calls Try.prog 129 #[.int .i64 1] w fun e w' => e = .returned (.iface 147 (.agg #[])) ∧ w = w' := typeOf_any 1 w
theorem typeText (w : World) : Calls Try.prog 129 #[.int .i64 2] w fun e w' => e = .returned (.iface 148 (.agg #[])) ∧ w = w' := typeOf_any 2 w
theorem typeList (w : World) : Calls Try.prog 129 #[.int .i64 3] w fun e w' => e = .returned (.iface 150 (.agg #[])) ∧ w = w' := typeOf_any 3 w
theorem typeNo (k : Int) (h : k ≠ 1 ∧ k ≠ 2 ∧ k ≠ 3) (w : World) : Calls Try.prog 129 #[.int .i64 k] w fun e w' => e = .returned (.iface 157 (.agg #[])) ∧ w = w' := by
  have := typeOf_any k w
  rw [show typeVal k = .iface 157 (.agg #[]) by simp [typeVal, h.1, h.2.1, h.2.2]] at this
  exact this
theorem okTo_zero (l : List Fd) : okTo l 0 := fun i x h => absurd h (by omega)
theorem okTo_succ {l : List Fd} {j : Nat} {x : Fd} (h : okTo l j) (hx : l[j]? = some x) (hf : fieldOk (l.take j) x = true) : okTo l (j + 1) := by
  intro i y hi hy
  by_cases e : i = j
  · subst e
    rw [hx] at hy
    cases hy
    exact hf
  · exact h i y (by omega) hy
theorem isFmt_no {l : List Fd} {j : Nat} {x : Fd} (hx : l[j]? = some x) (hf : fieldOk (l.take j) x = false) : isFmt l = false := by
  have hj : j < l.length := by
    rcases Nat.lt_or_ge j l.length with h | h
    · exact h
    · rw [List.getElem?_eq_none h] at hx; cases hx
  unfold isFmt
  refine @decide_eq_false _ (Classical.propDecidable _) fun h => ?_
  have := h.2 j x hj hx
  rw [hf] at this
  cases this
theorem isFmt_yes {l : List Fd} (h : 1 ≤ l.length ∧ l.length ≤ 6) (ho : okTo l l.length) : isFmt l = true := @decide_eq_true _ (Classical.propDecidable _) ⟨h, ho⟩
theorem isFmt_len {l : List Fd} (h : ¬ (1 ≤ l.length ∧ l.length ≤ 6)) : isFmt l = false := @decide_eq_false _ (Classical.propDecidable _) fun h' => h h'.1
theorem isFmt_iff {l : List Fd} : isFmt l = true ↔ IsFmt l := by unfold isFmt; exact @decide_eq_true_iff _ (Classical.propDecidable _)

end Go.Proofs.Ytcpnchjgklemgaa
