/- The text of a list of values: what it is. -/
import Derived.Test.YtdeecjbebkideaaDoorVal
import Derived.Lib.Join
import Derived.Lib.ItoaLen
import Derived.Lib.ItoaMem
import Derived.Test.YtdeecjbebkideaaDoorFmt
namespace Go.Proofs.YtdeecjbebkideaaDoor
open Go.ChangeShapes Go.WideShapes Go.ChangeAt Go.RowKit Go.Lib
set_option linter.unusedVariables false

/-- An integer of 64 bits. -/
def In64 (x : Int) : Prop := -9223372036854775808 ≤ x ∧ x ≤ 9223372036854775807
theorem in64_of_wf {x : Int} (h : (Lit.int .i64 x).wf = true) : In64 x := by
  simp [Lit.wf, IntKind.min, IntKind.max, IntKind.signed, IntKind.bits] at h
  unfold In64
  omega
theorem itoa_le {n : Int} (h : In64 n) : (itoa n).length ≤ 21 := by
  obtain ⟨h0, h1⟩ := h
  rcases Int.lt_or_le n 0 with h | h
  · obtain ⟨u, rfl⟩ : ∃ u : Nat, n = -(u : Int) := ⟨n.natAbs, by omega⟩
    rw [itoa_neg u (by omega)]
    have := dec_len20 u (by omega)
    simp
    omega
  · obtain ⟨u, rfl⟩ : ∃ u : Nat, n = u := ⟨n.toNat, by omega⟩
    rw [itoa_nonneg]
    have := dec_len20 u (by omega)
    omega
/-- All numbers of a value are integers of 64 bits. -/
def Vl.ok (x : Vl) : Prop := In64 x.num ∧ ∀ y ∈ x.items, In64 y
/-- The text of a value's integers. -/
def itemsText (y : List Int) : List UInt8 := Lib.join (y.map itoa) [46]
/-- The text of a value. -/
def valText (x : Vl) : List UInt8 := if x.items = [] then itoa x.num else itemsText x.items
def msgTo (l : List Vl) : List UInt8 := Lib.join (l.map valText) [32]
/-- The text of a list of values. -/
def msgText (l : List Vl) : List UInt8 := if l = [] then [45] else msgTo l
theorem join_add (sep : List UInt8) : ∀ (xs : List (List UInt8)) (y : List UInt8), Lib.join (xs ++ [y]) sep = (if xs = [] then Lib.join xs sep else Lib.join xs sep ++ sep) ++ y
  | [], y => by simp [Lib.join_one, Lib.join_nil]
  | x :: t, y => by
    rw [List.cons_append, Lib.join_cons, Lib.join_cons, if_neg (by simp)]
    unfold Lib.joinTail
    simp
/-- The text of the first j + 1, out of that of the first j. -/
theorem join_next (sep : List UInt8) {ts : List (List UInt8)} {j : Nat} {t : List UInt8} (h : ts[j]? = some t) : Lib.join (ts.take (j + 1)) sep = (if j = 0 then Lib.join (ts.take j) sep else Lib.join (ts.take j) sep ++ sep) ++ t := by
  rw [List.take_add_one, h, Option.toList_some, join_add]
  congr 1
  by_cases e : j = 0
  · subst e; simp
  · rw [if_neg e, if_neg]
    intro h1
    have h2 := congrArg List.length h1
    have hjl : j < ts.length := lt_of_some h
    simp at h2
    rcases h2 with h2 | h2
    · omega
    · subst h2; simp at hjl
/-- Texts of at most k letters each, one letter between two of them. -/
theorem join_bound (sep : List UInt8) (hs : sep.length = 1) (f : Nat → Nat) : ∀ (ts : List (List UInt8)) (b : Nat), (∀ (j : Nat) t, ts[j]? = some t → t.length + 1 ≤ f j) → (Lib.join ts sep).length ≤ ((List.range ts.length).map f).sum := by
  intro ts b h
  have main : ∀ j, j ≤ ts.length → (Lib.join (ts.take j) sep).length ≤ ((List.range j).map f).sum := by
    intro j
    induction j with
    | zero => intro _; simp [Lib.join_nil]
    | succ j ih =>
      intro hj
      have hx : ts[j]? = some (ts[j]'(by omega)) := List.getElem?_eq_getElem (by omega)
      have h1 := h j _ hx
      have h2 := ih (by omega)
      rw [join_next sep hx, List.length_append, List.range_succ, List.map_append, List.sum_append]
      simp only [List.map_cons, List.map_nil, List.sum_cons, List.sum_nil]
      split
      · omega
      · rw [List.length_append, hs]
        omega
  have := main ts.length (Nat.le_refl _)
  rwa [List.take_length] at this
theorem sum_const (k n : Nat) : ((List.range n).map fun _ => k).sum = n * k := by
  induction n with
  | zero => simp
  | succ n ih => rw [List.range_succ, List.map_append, List.sum_append, ih, Nat.succ_mul]; simp
theorem itemsText_len {y : List Int} (h : ∀ x ∈ y, In64 x) : (itemsText y).length ≤ y.length * 22 := by
  have := join_bound [46] rfl (fun _ => 22) (y.map itoa) 0 (fun j t ht => by
    rw [List.getElem?_map] at ht
    cases hy : y[j]? with
    | none => rw [hy] at ht; cases ht
    | some x =>
      rw [hy] at ht
      cases ht
      have := itoa_le (h x (List.mem_of_getElem? hy))
      omega)
  rw [sum_const, List.length_map] at this
  exact this
theorem valText_len {x : Vl} (h : x.ok) : (valText x).length ≤ x.items.length * 22 + 21 := by
  unfold valText
  split
  · have := itoa_le h.1
    omega
  · have := itemsText_len h.2
    omega
theorem sum_items (l : List Vl) : ((List.range l.length).map fun j => ((l.getD j ⟨0, []⟩).items.length * 22 + 22)).sum = (itemsOf l + l.length) * 22 := by
  have main : ∀ j, j ≤ l.length → ((List.range j).map fun j => ((l.getD j ⟨0, []⟩).items.length * 22 + 22)).sum = (itemsOf (l.take j) + j) * 22 := by
    intro j
    induction j with
    | zero => intro _; simp [itemsOf]
    | succ j ih =>
      intro hj
      have hx : l[j]? = some (l[j]'(by omega)) := List.getElem?_eq_getElem (by omega)
      rw [List.range_succ, List.map_append, List.sum_append, ih (by omega), itemsOf_at hx]
      simp only [List.map_cons, List.map_nil, List.sum_cons, List.sum_nil, List.getD, hx, Option.getD_some]
      omega
  have := main l.length (Nat.le_refl _)
  rwa [List.take_length] at this
theorem msgTo_len {l : List Vl} (h : ∀ x ∈ l, x.ok) : (msgTo l).length ≤ (itemsOf l + l.length) * 22 := by
  have := join_bound [32] rfl (fun j => (l.getD j ⟨0, []⟩).items.length * 22 + 22) (l.map valText) 0 (fun j t ht => by
    rw [List.getElem?_map] at ht
    cases hy : l[j]? with
    | none => rw [hy] at ht; cases ht
    | some x =>
      rw [hy] at ht
      cases ht
      have := valText_len (h x (List.mem_of_getElem? hy))
      simp only [List.getD, hy, Option.getD_some]
      omega)
  rw [List.length_map, sum_items] at this
  exact this
/-- A numeral ends in a digit. -/
theorem itoa_last (n : Int) : ∃ t c, itoa n = t ++ [c] ∧ c ≠ 45 := by
  have dl : ∀ u : Nat, ∃ t c, decDigits u = t ++ [c] ∧ c ≠ 45 := by
    intro u
    by_cases h : u < 10
    · refine ⟨[], UInt8.ofNat (48 + u), by rw [decDigits_one h]; rfl, fun e => ?_⟩
      have := congrArg UInt8.toNat e
      simp at this
      omega
    · refine ⟨decDigits (u / 10), UInt8.ofNat (48 + u % 10), by rw [decDigits, dif_neg h], fun e => ?_⟩
      have := congrArg UInt8.toNat e
      simp at this
      omega
  rcases Int.lt_or_le n 0 with h | h
  · obtain ⟨u, rfl⟩ : ∃ u : Nat, n = -(u : Int) := ⟨n.natAbs, by omega⟩
    rw [itoa_neg u (by omega)]
    obtain ⟨t, c, e, hc⟩ := dl u
    exact ⟨_ :: t, c, by rw [e]; rfl, hc⟩
  · obtain ⟨u, rfl⟩ : ∃ u : Nat, n = u := ⟨n.toNat, by omega⟩
    rw [itoa_nonneg]
    exact dl u
theorem join_last (sep : List UInt8) (ts : List (List UInt8)) (h : ts ≠ []) (hl : ∀ t ∈ ts, ∃ u c, t = u ++ [c] ∧ c ≠ 45) : ∃ u c, Lib.join ts sep = u ++ [c] ∧ c ≠ 45 := by
  rcases List.eq_nil_or_concat ts with e | ⟨xs, y, e⟩
  · exact absurd e h
  · rw [List.concat_eq_append] at e
    subst e
    obtain ⟨u, c, e, hc⟩ := hl y (by simp)
    subst e
    exact ⟨_, c, by rw [join_add, ← List.append_assoc], hc⟩
theorem valText_last (x : Vl) : ∃ u c, valText x = u ++ [c] ∧ c ≠ 45 := by
  unfold valText
  split
  · exact itoa_last _
  · rename_i h
    refine join_last _ _ (by simpa using h) fun t ht => ?_
    obtain ⟨z, _, rfl⟩ := List.mem_map.1 ht
    exact itoa_last z
/-- A list of values that is not empty has another text than one that is. -/
theorem msgText_dash {l : List Vl} : msgText l = [45] ↔ l = [] := by
  constructor
  · intro h
    rcases Classical.em (l = []) with e | e
    · exact e
    · exfalso
      unfold msgText at h
      rw [if_neg e] at h
      obtain ⟨u, c, e1, hc⟩ := join_last [32] (l.map valText) (by simpa using e) fun t ht => by
        obtain ⟨z, _, rfl⟩ := List.mem_map.1 ht
        exact valText_last z
      unfold msgTo at h
      rw [h] at e1
      have := congrArg List.getLast? e1
      simp at this
      exact hc this.symm
  · intro h
    unfold msgText
    rw [if_pos h]
end Go.Proofs.YtdeecjbebkideaaDoor
