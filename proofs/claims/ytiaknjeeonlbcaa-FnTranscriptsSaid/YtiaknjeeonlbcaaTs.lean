/- The mathematics of transcripts: lists of messages, each a list of bytes; their hash, and what each side makes of it. No function of the program is spoken of. -/
import Derived.Test.YtiaknjeeonlbcaaLl
import Derived.Test.YtiaknjeeonlbcaaHv
namespace Go.Proofs.Ytiaknjeeonlbcaa
set_option linter.unusedVariables false

def byteB (z : Int) : Bool := decide (0 ≤ z) && decide (z ≤ 255)
def rowB (y : List Int) : Bool := y.all byteB
def isTr (l : List (List Int)) : Bool := decide (l.length ≤ 12) && l.all rowB
/-- A message is taken into the hash. -/
def thStep (h : Int) (y : List Int) : Int := hashOf ([h, (y.length : Int)] ++ y)
def thAll (l : List (List Int)) : Int := l.foldl thStep 1
def trH (l : List (List Int)) : Int := if isTr l then thAll l else 0
def keyB (k : Int) : Bool := decide (1 ≤ k) && decide (k ≤ 2147483646)
def sideB (s : Int) : Bool := decide (0 ≤ s) && decide (s ≤ 1)
def finP (k : Int) (l : List (List Int)) (s : Int) : Int := if keyB k && isTr l && sideB s then khash k [s, trH l] else 0
def chkP (k : Int) (l : List (List Int)) (s f : Int) : Bool := !(f == 0) && (finP k l s == f)
theorem rowB_no {y : List Int} {j : Nat} {z : Int} (hz : y[j]? = some z) (h : byteB z = false) : rowB y = false := by
  unfold rowB
  rw [List.all_eq_false]
  exact ⟨z, List.mem_of_getElem? hz, by rw [h]; decide⟩
theorem rowB_zero (y : List Int) : rowB (y.take 0) = true := by simp [rowB]
theorem rowB_step {y : List Int} {j : Nat} {z : Int} (h : rowB (y.take j) = true) (hz : y[j]? = some z) (hi : byteB z = true) : rowB (y.take (j + 1)) = true := by
  unfold rowB at *
  rw [List.take_add_one, hz, Option.toList_some, List.all_append, h]
  simpa using hi
theorem allR_step {l : List (List Int)} {j : Nat} {y : List Int} (h : (l.take j).all rowB = true) (hy : l[j]? = some y) (hi : rowB y = true) : (l.take (j + 1)).all rowB = true := by
  rw [List.take_add_one, hy, Option.toList_some, List.all_append, h]
  simpa using hi
theorem allR_no {l : List (List Int)} {j : Nat} {y : List Int} (hy : l[j]? = some y) (h : rowB y = false) : l.all rowB = false := by
  rw [List.all_eq_false]
  exact ⟨y, List.mem_of_getElem? hy, by rw [h]; decide⟩
theorem thAll_snoc (l : List (List Int)) (y : List Int) : thAll (l ++ [y]) = thStep (thAll l) y := by unfold thAll; rw [List.foldl_append]; rfl
theorem thAll_take {l : List (List Int)} {j : Nat} {y : List Int} (h : l[j]? = some y) : thAll (l.take (j + 1)) = thStep (thAll (l.take j)) y := by rw [List.take_add_one, h]; exact thAll_snoc _ _
theorem thAll_bd (l : List (List Int)) : 0 ≤ thAll l ∧ thAll l < 2147483647 := by
  rcases List.eq_nil_or_concat l with rfl | ⟨r, y, rfl⟩
  · exact ⟨by decide, by decide⟩
  · rw [List.concat_eq_append, thAll_snoc]
    exact hashOf_bd _
theorem trH_bd (l : List (List Int)) : 0 ≤ trH l ∧ trH l < 2147483647 := by
  unfold trH
  split
  · exact thAll_bd l
  · exact ⟨by decide, by decide⟩
theorem finP_bd (k : Int) (l : List (List Int)) (s : Int) : 0 ≤ finP k l s ∧ finP k l s < 2147483647 := by
  unfold finP
  split
  · exact khash_bd _ _
  · exact ⟨by decide, by decide⟩
theorem isTr_parts {l : List (List Int)} (h : isTr l = true) : l.length ≤ 12 ∧ l.all rowB = true := by
  unfold isTr at h
  rw [Bool.and_eq_true] at h
  exact ⟨of_decide_eq_true h.1, h.2⟩
theorem row_fits {l : List (List Int)} (h : l.all rowB = true) {y : List Int} (hy : y ∈ l) : ∀ z ∈ y, 0 ≤ z ∧ z ≤ 255 := fun z hz => by
  have h1 := List.all_eq_true.1 h y hy
  have h2 := List.all_eq_true.1 h1 z hz
  unfold byteB at h2
  rw [Bool.and_eq_true] at h2
  exact ⟨of_decide_eq_true h2.1, of_decide_eq_true h2.2⟩
theorem finP_zero {k : Int} {l : List (List Int)} {s : Int} (h : keyB k = false ∨ isTr l = false ∨ sideB s = false) : finP k l s = 0 := by
  unfold finP
  rw [if_neg]
  rcases h with h | h | h <;> simp [h]
theorem finP_some {k : Int} {l : List (List Int)} {s : Int} (h1 : keyB k = true) (h2 : isTr l = true) (h3 : sideB s = true) : finP k l s = khash k [s, trH l] := by
  unfold finP
  rw [if_pos (by simp [h1, h2, h3])]
end Go.Proofs.Ytiaknjeeonlbcaa
