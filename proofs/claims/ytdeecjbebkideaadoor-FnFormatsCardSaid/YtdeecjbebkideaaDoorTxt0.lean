/- The text of a format: what it is. -/
import Derived.Test.YtdeecjbebkideaaDoorIsF2
import Derived.Test.YtdeecjbebkideaaDoorFmt
import Derived.Lib.Join
namespace Go.Proofs.YtdeecjbebkideaaDoor
open Go.ChangeShapes Go.WideShapes Go.ChangeAt Go.RowKit Go.Lib
set_option linter.unusedVariables false

theorem str_add (A B : List UInt8) (h : A.length + B.length ≤ 100000) (w : World) : (Op.stringOp .add ⟨A.toArray⟩ ⟨B.toArray⟩).run Tryd.prog w = .ok (.string ⟨(A ++ B).toArray⟩) w := by
  rw [run_string_add_sum w _ _ (by
    show A.toArray.size + B.toArray.size ≤ _
    simp
    omega), ByteArray.mk_append_mk]
theorem nameOf_len (k : Int) : (nameOf k).length ≤ 4 := by
  unfold nameOf
  split
  · simp
  · split
    · simp
    · split <;> simp
theorem itoa_len20 {n : Int} (h0 : -9223372036854775808 ≤ n) (h1 : n ≤ 9223372036854775807) : (itoa n).length ≤ 21 := by
  rcases Int.lt_or_le n 0 with h | h
  · obtain ⟨u, rfl⟩ : ∃ u : Nat, n = -(u : Int) := ⟨n.natAbs, by omega⟩
    rw [itoa_neg u (by omega)]
    have := dec_len20 u (by omega)
    simp
    omega
  · obtain ⟨u, rfl⟩ : ∃ u : Nat, n = u := ⟨n.toNat, by omega⟩
    rw [itoa_nonneg]
    have := dec_len20 u (by omega)
    omega
/-- A field's text. -/
def fdText (x : Fd) : List UInt8 :=
  if x.cond = -1 then nameOf x.kind ++ itoa x.max
  else ((((nameOf x.kind ++ itoa x.max) ++ [63]) ++ itoa x.cond) ++ [61]) ++ itoa x.is
/-- What a field that stands in a format has. -/
def Small (x : Fd) : Prop := (1 ≤ x.max ∧ x.max ≤ 99) ∧ (x.cond = -1 ∨ (0 ≤ x.cond ∧ x.cond ≤ 1000000 ∧ 0 ≤ x.is ∧ x.is ≤ 99))
theorem fdText_len {x : Fd} (h : Small x) : (fdText x).length ≤ 70 := by
  obtain ⟨⟨h1, h2⟩, h3⟩ := h
  have a1 := nameOf_len x.kind
  have a2 := itoa_len20 (n := x.max) (by omega) (by omega)
  unfold fdText
  rcases h3 with h3 | ⟨h4, h5, h6, h7⟩
  · rw [if_pos h3, List.length_append]
    omega
  · rw [if_neg (by omega)]
    have a3 := itoa_len20 (n := x.cond) (by omega) (by omega)
    have a4 := itoa_len20 (n := x.is) (by omega) (by omega)
    simp only [List.length_append, List.length_cons, List.length_nil]
    omega
theorem mostOf_le (k : Int) : mostOf k ≤ 99 := by
  unfold mostOf
  split
  · omega
  · split
    · omega
    · split <;> omega
theorem field_max {l : List Fd} {x : Fd} (h : fieldOk l x = true) : 1 ≤ x.max ∧ x.max ≤ 99 := by
  unfold fieldOk at h
  rw [Bool.and_eq_true, decide_eq_true_iff] at h
  have := mostOf_le x.kind
  omega
theorem small_of {l : List Fd} {j : Nat} {x : Fd} (h : okTo l (j + 1)) (hj : j ≤ 1000000) (hx : l[j]? = some x) : Small x := by
  have h1 := h j x (by omega) hx
  refine ⟨field_max h1, ?_⟩
  unfold fieldOk at h1
  rw [Bool.and_eq_true] at h1
  have h2 := h1.2
  unfold condOk at h2
  by_cases e : x.cond = -1
  · exact Or.inl e
  · rw [if_neg e, Bool.and_eq_true, decide_eq_true_iff] at h2
    obtain ⟨⟨h3, h4⟩, h5⟩ := h2
    have hl : (l.take j).length ≤ j := by rw [List.length_take]; omega
    refine Or.inr ⟨h3, by omega, ?_⟩
    cases hg : (l.take j)[x.cond.toNat]? with
    | none => rw [hg] at h5; cases h5
    | some g =>
      rw [hg] at h5
      simp only [Bool.and_eq_true, decide_eq_true_iff] at h5
      have hlt : x.cond.toNat < j := by
        rcases Nat.lt_or_ge x.cond.toNat j with q | q
        · exact q
        · rw [List.getElem?_eq_none (by omega)] at hg; cases hg
      rw [List.getElem?_take, if_pos hlt] at hg
      have := field_max (h x.cond.toNat g (by omega) hg)
      omega
/-- The text of the first fields. -/
def textTo (l : List Fd) : List UInt8 := Lib.join (l.map fdText) [32]
theorem join_snoc : ∀ (xs : List (List UInt8)) (y : List UInt8), Lib.join (xs ++ [y]) [32] = (if xs = [] then Lib.join xs [32] else Lib.join xs [32] ++ [32]) ++ y
  | [], y => by simp [Lib.join_one, Lib.join_nil]
  | x :: t, y => by
    rw [List.cons_append, Lib.join_cons, Lib.join_cons, if_neg (by simp)]
    unfold Lib.joinTail
    simp
theorem textTo_step {l : List Fd} {j : Nat} {x : Fd} (hx : l[j]? = some x) : textTo (l.take (j + 1)) = (if j = 0 then textTo (l.take j) else textTo (l.take j) ++ [32]) ++ fdText x := by
  unfold textTo
  rw [List.take_add_one, hx, Option.toList_some, List.map_append, List.map_cons, List.map_nil, join_snoc]
  congr 1
  by_cases e : j = 0
  · subst e; simp
  · rw [if_neg e, if_neg]
    intro h
    have h1 := congrArg List.length h
    have hjl : j < l.length := by
      rcases Nat.lt_or_ge j l.length with q | q
      · exact q
      · rw [List.getElem?_eq_none q] at hx; cases hx
    simp at h1
    rcases h1 with h1 | h1
    · omega
    · subst h1; simp at hjl
theorem textTo_len {l : List Fd} (hn : l.length ≤ 6) (ho : okTo l l.length) : ∀ j, j ≤ l.length → (textTo (l.take j)).length ≤ j * 71
  | 0, _ => by simp [textTo, Lib.join_nil]
  | j + 1, hj => by
    have ih := textTo_len hn ho j (by omega)
    have hx : l[j]? = some (l[j]'(by omega)) := List.getElem?_eq_getElem (by omega)
    have h1 := fdText_len (small_of (j := j) (fun i y hi hy => ho i y (by omega) hy) (by omega) hx)
    rw [textTo_step hx, List.length_append]
    split
    · omega
    · rw [List.length_append]
      simp only [List.length_cons, List.length_nil]
      omega
/-- A list's text: that of a format; none of any other list. -/
noncomputable def fmtText (l : List Fd) : List UInt8 := if isFmt l = true then textTo l else []
end Go.Proofs.YtdeecjbebkideaaDoor
