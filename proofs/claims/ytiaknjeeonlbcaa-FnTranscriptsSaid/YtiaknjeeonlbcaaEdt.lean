/- One list of a list of lists is made longer by the law of transcripts: what lies there, and what the copy is then. -/
import Derived.Test.YtiaknjeeonlbcaaDrT2
import Derived.Test.YtiaknjeeonlbcaaApg
namespace Go.Proofs.Ytiaknjeeonlbcaa
open Go.ChangeShapes Go.WideShapes Go.ChangeAt Go.RowKit
set_option linter.unusedVariables false
set_option linter.unusedSimpArgs false

theorem OwnL.look {S : Nat} {w : World} {B n c i : Nat} {a : Option Addr} {l : List (List Int)} (h : OwnL S w B a n c l) (hi : i < n) :
    ∃ (hs : List Rh) (g : Nat) (v : Rh) (x : List Int), a = some ⟨g, 0, none⟩ ∧ OwnI Rh.enc 1 29 w B (some ⟨g, 0, none⟩) n c hs ∧ RowsL S w B (some ⟨g, 0, none⟩) hs l ∧ g < S ∧ S ≤ w.heap.size ∧ hs[i]? = some v ∧ l[i]? = some x ∧ w.cell? ⟨g, i, none⟩ = some (.slice v.p v.m v.c) ∧ Own .i64 3 w B v.p v.m v.c x := by
  obtain ⟨hs, h1, h2, h3, h4⟩ := h
  obtain ⟨g, rfl, _, _⟩ := h1.head (by omega)
  obtain ⟨b, o, v, e, hv, hc⟩ := (h1.items Rh.enc_len).at_ (j := i) hi
  cases e
  have hil : i < l.length := by rw [← h2.1, h1.len]; exact hi
  refine ⟨hs, g, v, _, rfl, h1, h2, h3 _ rfl, h4, hv, List.getElem?_eq_getElem hil, ?_, (h2.2.1 i v _ hv (List.getElem?_eq_getElem hil)).1⟩
  have := hc 0 _ rfl
  simpa using this
/-- The header's cell is there still when the list has been made longer. -/
theorem OwnL.still {u w : World} {S B n c g i : Nat} {hs : List Rh} {l : List (List Int)} {x : List Int} {v : Rh} (hi : OwnI Rh.enc 1 29 u B (some ⟨g, 0, none⟩) n c hs) (hr : RowsL S u B (some ⟨g, 0, none⟩) hs l) (hx : l[i]? = some x) (hv : hs[i]? = some v) (hin : i < n)
    (hg : u.grownBy w (Value.ownBlock (.slice v.p v.m v.c))) : (∃ uu, w.cell? ⟨g, i, none⟩ = some uu) ∧ w.frozen? ⟨g, i, none⟩ = false := by
  obtain ⟨hov, hdv⟩ := hr.2.1 i v x hv hx
  have h1 : OwnI Rh.enc 1 29 w B (some ⟨g, 0, none⟩) n c hs := hi.farL hg fun ad e e2 => by
    cases e
    cases hvp : v.p with
    | none => rw [hvp] at e2; simp [Value.ownBlock] at e2
    | some bd =>
      rw [hvp] at e2
      simp only [Value.ownBlock, Option.some.injEq] at e2
      exact (hdv bd hvp).2 _ rfl e2
  refine ⟨?_, h1.2.frozenAt i⟩
  rw [h1.2.cellAt i (by omega)]
  have : i < (flatOf Rh.enc hs).length := by rw [h1.2.1]; omega
  exact ⟨_, List.getElem?_eq_getElem this⟩
theorem short_set {l : List (List Int)} (h : Short l) (i : Nat) {y : List Int} (hy : y.length ≤ 1000) : ∀ x ∈ l.set i y, x.length ≤ 1000000000 := fun x hx => by
  rcases List.mem_or_eq_of_mem_set hx with q | rfl
  · have := h x q
    omega
  · omega
theorem Short.far {l : List (List Int)} (h : Short l) : ∀ x ∈ l, x.length ≤ 1000000000 := fun x hx => by
  have := h x hx
  omega
end Go.Proofs.Ytiaknjeeonlbcaa
