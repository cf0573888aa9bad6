/- The cursor over a list of bytes, by the program: what is taken, and what is left. One number off the cursor, and one value: a number, or a row of numbers behind their count. A message read from the beginning of its bytes, and from all of them, by the model. A field's value off the cursor, by the program. -/
import Derived.Test.YtcmjadfpifpknaaGreatG7
import Derived.Test.YtcmjadfpifpknaaGreatG6
import Derived.Test.YtcmjadfpifpknaaGreatG9
import Derived.Test.YtcmjadfpifpknaaGreatG4
namespace Go.Proofs.YtcmjadfpifpknaaGreat
open Go.ChangeShapes Go.WideShapes Go.ChangeAt Go.RowKit
set_option linter.unusedVariables false

end Go.Proofs.YtcmjadfpifpknaaGreat
namespace Go.Proofs.YtcmjadfpifpknaaGreat
open Go.ChangeShapes Go.WideShapes Go.ChangeAt Go.RowKit
set_option linter.unusedVariables false

theorem grown_set2 {w w1 : World} {row : Option Nat} {R : Nat} (h : w.grownBy w1 row) (hR : w.heap.size ≤ R) (u v : Value) : w.grownBy ((w1.setCell ⟨R, 0, none⟩ u).setCell ⟨R, 1, none⟩ v) row :=
  grown_on h ((set_grown w1 R 0 u).trans (set_grown _ R 1 v)) (fun r e => Or.inr (by cases e; exact hR))
theorem addr_none (ad : Addr) : ad.add 0 = ad := by unfold Addr.add; simp
/-- The cells of b are the list y, whatever happens to the cursor in block g. -/
def Fix (w : World) (g : Nat) (b : Option Addr) (m : Nat) (y : List Int) : Prop := ∀ w', w.grownBy w' (some g) → Nums .i64 w' b m y
theorem Fix.same {w w' : World} {g m : Nat} {b : Option Addr} {y : List Int} (h : Fix w g b m y) (hb : Below w.heap.size w w') : Fix w' g b m y := fun w2 hg => h w2 ((grown_below hb _).trans hg)
theorem Fix.on {w w' : World} {g m : Nat} {b : Option Addr} {y : List Int} (h : Fix w g b m y) (hb : w.grownBy w' (some g)) : Fix w' g b m y := fun w2 hg => h w2 (hb.trans hg)
theorem Fix.len {w : World} {g m : Nat} {b : Option Addr} {y : List Int} (h : Fix w g b m y) : y.length = m := (h w (grown_below (Below.refl _ _) _)).len
/-- What a function leaves that finds no value, and one that finds one. -/
def Rdn (g : Nat) (w : World) (e : Ending) (w' : World) : Prop := e = .returned (.tuple #[.agg #[.int .i64 0, .slice none 0 0], .bool false]) ∧ w.grownBy w' (some g)
end Go.Proofs.YtcmjadfpifpknaaGreat
namespace Go.Proofs.YtcmjadfpifpknaaGreat
open Go.ChangeShapes Go.WideShapes Go.ChangeAt Go.RowKit
set_option linter.unusedVariables false

/-- The message that b begins with, and how many bytes it has; nothing and -1 if there is none. -/
noncomputable def rpV (l : List Fd) (y : List Int) : List Vl := (rdP l y).elim [] (fun s => s.1)
noncomputable def rpK (l : List Fd) (y : List Int) : Int := (rdP l y).elim (-1) (fun s => (s.2 : Int))
theorem rp_none {l : List Fd} {y : List Int} (h : rdP l y = none) : rpV l y = [] ∧ rpK l y = -1 := by unfold rpV rpK; rw [h]; exact ⟨rfl, rfl⟩
theorem rp_some {l : List Fd} {y : List Int} {v : List Vl} {k : Nat} (h : rdP l y = some (v, k)) : rpV l y = v ∧ rpK l y = k := by unfold rpV rpK; rw [h]; exact ⟨rfl, rfl⟩
/-- Whether all bytes are those of a message, and of which. -/
noncomputable def dmOk (l : List Fd) (y : List Int) : Bool := decide (rpK l y = (y.length : Int))
noncomputable def dmV (l : List Fd) (y : List Int) : List Vl := if dmOk l y = true then rpV l y else []
theorem rpV_few (l : List Fd) (y : List Int) : (rpV l y).length ≤ 6 ∧ itemsOf (rpV l y) ≤ 30 := by
  cases h : rdP l y with
  | none => rw [(rp_none h).1]; simp [itemsOf]
  | some s =>
    obtain ⟨v, k⟩ := s
    rw [(rp_some h).1]
    obtain ⟨h1, h2, h3⟩ := fitsFmt_parts (rdP_form h).1
    have h4 := isFmt_iff.1 h1
    have h5 := h4.1
    have hs : ∀ j, j ≤ v.length → itemsOf (v.take j) ≤ 5 * j := by
      intro j
      induction j with
      | zero => intro _; simp [itemsOf]
      | succ j ih =>
        intro hj
        obtain ⟨x, hx⟩ : ∃ x, l[j]? = some x := ⟨_, List.getElem?_eq_getElem (by omega)⟩
        obtain ⟨z, hz⟩ : ∃ z, v[j]? = some z := ⟨_, List.getElem?_eq_getElem (by omega)⟩
        have h6 := h3 j x z (by omega) hx hz
        have h7 : z.items.length ≤ 5 := by
          cases ht : isThere l v j with
          | false =>
            rw [fitsAt_not ht] at h6
            unfold emptyV at h6
            rw [Bool.and_eq_true, decide_eq_true_eq, decide_eq_true_eq] at h6
            rw [h6.2]
            simp
          | true =>
            rw [fitsAt_there ht] at h6
            have h8 := h4.2 j x (by omega) hx
            unfold fieldOk at h8
            rw [Bool.and_eq_true, decide_eq_true_eq] at h8
            have h9 := h8.1
            unfold mostOf at h9
            unfold fitsField fitIts at h6
            split at h6
            · rw [Bool.and_eq_true, decide_eq_true_eq, decide_eq_true_eq] at h6
              omega
            · rename_i hk
              rw [if_neg hk] at h9
              have h10 : x.max ≤ 5 := by
                revert h9
                repeat' split
                all_goals omega
              split at h6
              · rw [Bool.and_eq_true, Bool.and_eq_true, decide_eq_true_eq, decide_eq_true_eq] at h6
                omega
              · split at h6
                · rw [Bool.and_eq_true, Bool.and_eq_true, decide_eq_true_eq, decide_eq_true_eq] at h6
                  omega
                · cases h6
        rw [itemsOf_at hz]
        have := ih (by omega)
        omega
    have h6 := hs v.length (Nat.le_refl _)
    rw [List.take_of_length_le (Nat.le_refl _)] at h6
    omega
theorem dmV_few (l : List Fd) (y : List Int) : (dmV l y).length ≤ 6 ∧ itemsOf (dmV l y) ≤ 30 := by
  unfold dmV
  split
  · exact rpV_few l y
  · simp [itemsOf]
/-- What a function leaves that reads the beginning of some bytes, and one that reads all of them. -/
def RpTold (tO tI : TypeId) (l : List Fd) (y : List Int) (w : World) (e : Ending) (w' : World) : Prop :=
  ∃ a n c, e = .returned (.tuple #[.slice a n c, .int .i64 (rpK l y)]) ∧ OwnV tO tI w' w.heap.size a n c (rpV l y) ∧ Below w.heap.size w w'
def DmTold (tO tI : TypeId) (l : List Fd) (y : List Int) (w : World) (e : Ending) (w' : World) : Prop :=
  ∃ a n c, e = .returned (.tuple #[.slice a n c, .bool (dmOk l y)]) ∧ OwnV tO tI w' w.heap.size a n c (dmV l y) ∧ Below w.heap.size w w'

end Go.Proofs.YtcmjadfpifpknaaGreat
namespace Go.Proofs.YtcmjadfpifpknaaGreat
open Go.ChangeShapes Go.WideShapes Go.ChangeAt Go.RowKit
set_option linter.unusedVariables false

theorem two (w : World) (A B : Array Value) (t1 t2 : TypeId) :
    w.heap.size + 2 = ((w.alloc (.cells A t1)).alloc (.cells B t2)).heap.size ∧
    ((w.alloc (.cells A t1)).alloc (.cells B t2)).heap[w.heap.size]? = some (.cells A t1 (0, 0)) ∧
    ((w.alloc (.cells A t1)).alloc (.cells B t2)).heap[w.heap.size + 1]? = some (.cells B t2 (0, 0)) ∧
    Below w.heap.size w ((w.alloc (.cells A t1)).alloc (.cells B t2)) := by
  refine ⟨by simp, ?_, ?_, ((Below.refl _ w).alloc (Nat.le_refl _) _).alloc (by simp) _⟩
  · rw [Below.heap_alloc _ _ _ (by simp)]
    exact heap_alloc_new w _
  · have := heap_alloc_new (w.alloc (.cells A t1)) (.cells B t2)
    simpa using this
end Go.Proofs.YtcmjadfpifpknaaGreat
