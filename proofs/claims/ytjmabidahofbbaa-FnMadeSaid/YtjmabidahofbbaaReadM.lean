/- A message read from its bytes, by the model. -/
import Derived.Test.YtjmabidahofbbaaEncM
import Derived.Test.YtjmabidahofbbaaValB
namespace Go.Proofs.Ytjmabidahofbbaa
open Go.ChangeShapes Go.WideShapes Go.ChangeAt Go.RowKit
set_option linter.unusedVariables false

/-- What a function leaves that reads a field's value at place k. -/
def RdTold (tI : TypeId) (x : Fd) (y : List Int) (k : Nat) (w : World) (e : Ending) (w' : World) : Prop :=
  match rdF x y k with
  | none => e = .returned (.tuple #[.agg #[.int .i64 0, .slice none 0 0], .int .i64 (-1)]) ∧ Below w.heap.size w w'
  | some (v, k') => ∃ p q g, e = .returned (.tuple #[.agg #[.int .i64 v.num, .slice p q g], .int .i64 k']) ∧ Own .i64 tI w' w.heap.size p q g v.items ∧ Below w.heap.size w w'
theorem rdF_end {x : Fd} {y : List Int} {k : Nat} (h : y.length ≤ k) : rdF x y k = none := by unfold rdF; rw [List.getElem?_eq_none h]
theorem rdF_num {x : Fd} {y : List Int} {k : Nat} {z : Int} (hz : y[k]? = some z) (hk : x.kind = 1) : rdF x y k = if fitsField x z [] = true then some (⟨z, []⟩, k + 1) else none := by unfold rdF; rw [hz]; dsimp only; rw [if_pos hk]
theorem rdF_out {x : Fd} {y : List Int} {k : Nat} {z : Int} (hz : y[k]? = some z) (hk : x.kind ≠ 1) (h : ¬ (0 ≤ z ∧ z ≤ (y.length : Int) - k - 1)) : rdF x y k = none := by unfold rdF; rw [hz]; dsimp only; rw [if_neg hk, if_neg h]
theorem rdF_row {x : Fd} {y : List Int} {k q : Nat} (hz : y[k]? = some (q : Int)) (hk : x.kind ≠ 1) (h : k + 1 + q ≤ y.length) : rdF x y k = if fitsField x 0 ((y.drop (k + 1)).take q) = true then some (⟨0, (y.drop (k + 1)).take q⟩, k + 1 + q) else none := by
  unfold rdF
  rw [hz]
  dsimp only
  rw [if_neg hk, if_pos ⟨by omega, by omega⟩, Int.toNat_natCast]

/-- Three blocks are made, one behind the other. -/
theorem three (w : World) (A B C : Array Value) (t1 t2 t3 : TypeId) :
    w.heap.size + 3 = (((w.alloc (.cells A t1)).alloc (.cells B t2)).alloc (.cells C t3)).heap.size ∧
    (((w.alloc (.cells A t1)).alloc (.cells B t2)).alloc (.cells C t3)).heap[w.heap.size]? = some (.cells A t1 (0, 0)) ∧
    (((w.alloc (.cells A t1)).alloc (.cells B t2)).alloc (.cells C t3)).heap[w.heap.size + 1]? = some (.cells B t2 (0, 0)) ∧
    (((w.alloc (.cells A t1)).alloc (.cells B t2)).alloc (.cells C t3)).heap[w.heap.size + 1 + 1]? = some (.cells C t3 (0, 0)) ∧
    Below w.heap.size w (((w.alloc (.cells A t1)).alloc (.cells B t2)).alloc (.cells C t3)) := by
  refine ⟨by simp, ?_, ?_, ?_, (((Below.refl _ w).alloc (Nat.le_refl _) _).alloc (by simp) _).alloc (by simp; omega) _⟩
  · rw [Below.heap_alloc _ _ _ (by simp; omega), Below.heap_alloc _ _ _ (by simp)]
    exact heap_alloc_new w _
  · rw [Below.heap_alloc _ _ _ (by simp)]
    have := heap_alloc_new (w.alloc (.cells A t1)) (.cells B t2)
    simpa using this
  · have := heap_alloc_new ((w.alloc (.cells A t1)).alloc (.cells B t2)) (.cells C t3)
    simpa using this
theorem two_cells {w : World} {g : Nat} {t : TypeId} {a b : Value} (h : w.heap[g]? = some (.cells #[a, b] t (0, 0))) : w.cell? ⟨g, 0, none⟩ = some a ∧ w.cell? ⟨g, 1, none⟩ = some b ∧ w.frozen? ⟨g, 0, none⟩ = false ∧ w.frozen? ⟨g, 1, none⟩ = false :=
  ⟨(block_cell h 0).trans rfl, (block_cell h 1).trans rfl, block_frozen h 0, block_frozen h 1⟩
theorem two_put {w : World} {g : Nat} {t : TypeId} {a b : Value} (h : w.heap[g]? = some (.cells #[a, b] t (0, 0))) (c d : Value) :
    (w.setCell ⟨g, 0, none⟩ c).cell? ⟨g, 0, none⟩ = some c ∧ ((w.setCell ⟨g, 0, none⟩ c).setCell ⟨g, 1, none⟩ d).cell? ⟨g, 1, none⟩ = some d ∧ ((w.setCell ⟨g, 0, none⟩ c).setCell ⟨g, 1, none⟩ d).heap[g]? = some (.cells #[c, d] t (0, 0)) := by
  have h1 := heap_setCell_same w g 0 _ _ c h
  have h2 := heap_setCell_same _ g 1 _ _ d h1
  exact ⟨(block_cell h1 0).trans rfl, (block_cell h2 1).trans rfl, h2⟩

end Go.Proofs.Ytjmabidahofbbaa
