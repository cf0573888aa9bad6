/- What a format's conditions look at, and that it has a text. -/
import Derived.Test.YtdeecjbebkideaaDoorTxt0
import Derived.Test.YtdeecjbebkideaaDoorGu2i
namespace Go.Proofs.YtdeecjbebkideaaDoor
open Go.ChangeShapes Go.WideShapes Go.ChangeAt Go.RowKit Go.Lib
set_option linter.unusedVariables false

theorem fmt_guard {l : List Fd} (h : IsFmt l) {y : Int} (hy : y ∈ guardsOf l) : ∃ (k : Nat) (g : Fd), y = k ∧ k < l.length ∧ l[k]? = some g ∧ g.kind = 1 ∧ g.cond = -1 := by
  unfold guardsOf at hy
  have h1 := ((puts_asc (l := condsOf l) (acc := []) (by simp [Asc])).2 y).1 hy
  have h2 : y ∈ condsOf l := by simpa using h1
  unfold condsOf at h2
  obtain ⟨x, hx, he⟩ := List.mem_filterMap.1 h2
  by_cases hc : x.cond = -1
  · rw [if_pos hc] at he; cases he
  · rw [if_neg hc] at he
    cases he
    obtain ⟨j, hj, rfl⟩ := List.getElem_of_mem hx
    have h3 := h.2 j _ hj (List.getElem?_eq_getElem hj)
    unfold fieldOk at h3
    rw [Bool.and_eq_true] at h3
    have h4 := h3.2
    unfold condOk at h4
    rw [if_neg hc, Bool.and_eq_true, decide_eq_true_iff] at h4
    obtain ⟨⟨h5, h6⟩, h7⟩ := h4
    cases hg : (l.take j)[(l[j]).cond.toNat]? with
    | none => rw [hg] at h7; cases h7
    | some g =>
      rw [hg] at h7
      simp only [Bool.and_eq_true, decide_eq_true_iff] at h7
      have hlt : (l[j]).cond.toNat < j := by
        rcases Nat.lt_or_ge (l[j]).cond.toNat j with q | q
        · exact q
        · rw [List.getElem?_eq_none (by rw [List.length_take]; omega)] at hg; cases hg
      rw [List.getElem?_take, if_pos hlt] at hg
      exact ⟨(l[j]).cond.toNat, g, by omega, by omega, hg, h7.1.1, h7.1.2⟩
theorem fmt_text {l : List Fd} (h : isFmt l = true) : ∃ x t, fmtText l = x :: t := by
  have hF := isFmt_iff.1 h
  unfold fmtText
  rw [if_pos h]
  cases l with
  | nil => have := hF.1.1; simp at this
  | cons z tl =>
    have h1 := hF.2 0 z (by simp) rfl
    have h2 : 1 ≤ mostOf z.kind := by
      unfold fieldOk at h1
      rw [Bool.and_eq_true, decide_eq_true_iff] at h1
      omega
    unfold textTo
    rw [List.map_cons, Lib.join_cons]
    have h3 : ∃ x t, nameOf z.kind = x :: t := by
      unfold mostOf at h2
      unfold nameOf
      by_cases q1 : z.kind = 1
      · rw [if_pos q1]; exact ⟨_, _, rfl⟩
      · by_cases q2 : z.kind = 2
        · rw [if_neg q1, if_pos q2]; exact ⟨_, _, rfl⟩
        · by_cases q3 : z.kind = 3
          · rw [if_neg q1, if_neg q2, if_pos q3]; exact ⟨_, _, rfl⟩
          · rw [if_neg q1, if_neg q2, if_neg q3] at h2; omega
    obtain ⟨x, t, h3⟩ := h3
    unfold fdText
    split
    · rw [h3]; exact ⟨x, _, rfl⟩
    · rw [h3]; exact ⟨x, _, rfl⟩
theorem fmt_notext {l : List Fd} (h : isFmt l = false) : fmtText l = [] := by
  unfold fmtText
  rw [if_neg (by rw [h]; decide)]
end Go.Proofs.YtdeecjbebkideaaDoor
