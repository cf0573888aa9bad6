/- One cell of an item is written to. No function of the program is spoken of. -/
import Derived.Test.YtckmgbobkffabaaMac
namespace Go.Proofs.Ytckmgbobkffabaa
open Go.ChangeShapes Go.WideShapes Go.ChangeAt Go.RowKit
set_option linter.unusedVariables false

theorem at_lt {α : Type} {l : List α} {j : Nat} {x : α} (h : l[j]? = some x) : j < l.length := by
  rcases Nat.lt_or_ge j l.length with k | k
  · exact k
  · rw [List.getElem?_eq_none k] at h; cases h
theorem flat_setI {α : Type} {enc : α → List Value} {s : Nat} (hs : ∀ x, (enc x).length = s) {l : List α} {k i : Nat} {x y : α} {v : Value} (hx : l[k]? = some x) (hi : i < s) (he : enc y = (enc x).set i v) : (flatOf enc l).set (k * s + i) v = flatOf enc (l.set k y) := by
  have hk := at_lt hx
  have hc : x :: l.drop (k + 1) = l.drop k := by
    rw [List.getElem?_eq_getElem hk] at hx
    rw [List.drop_eq_getElem_cons hk, Option.some.inj hx]
  have hl0 : l = l.take k ++ x :: l.drop (k + 1) := by rw [hc, List.take_append_drop]
  have hm : l.set k y = l.take k ++ y :: l.drop (k + 1) := by rw [List.set_eq_take_append_cons_drop, if_pos hk]
  rw [hm]
  conv => lhs; rw [hl0]
  rw [flatOf_app, flatOf_app]
  have hl : (flatOf enc (l.take k)).length = k * s := by rw [flatOf_len hs, List.length_take]; congr 1; omega
  rw [List.set_append_right _ _ (by omega), hl, show k * s + i - k * s = i by omega]
  have e1 : flatOf enc (x :: l.drop (k + 1)) = enc x ++ flatOf enc (l.drop (k + 1)) := rfl
  have e2 : flatOf enc (y :: l.drop (k + 1)) = enc y ++ flatOf enc (l.drop (k + 1)) := rfl
  rw [e1, e2, he, List.set_append_left _ _ (by rw [hs]; exact hi)]
theorem own_putI {α : Type} {enc : α → List Value} {s : Nat} (hs : ∀ x, (enc x).length = s) {t : TypeId} {w : World} {B g n c k i : Nat} {l : List α} {x y : α} {v : Value} (h : OwnI enc s t w B (some ⟨g, 0, none⟩) n c l) (hx : l[k]? = some x) (hi : i < s) (he : enc y = (enc x).set i v) :
    OwnI enc s t (w.setCell ⟨g, k * s + i, none⟩ v) B (some ⟨g, 0, none⟩) n c (l.set k y) ∧ w.grownBy (w.setCell ⟨g, k * s + i, none⟩ v) (some g) := by
  have hs' := h.row.stored (k * s + i) v
  rw [flat_setI hs hx hi he] at hs'
  exact ⟨⟨by rw [List.length_set]; exact h.len, hs'.1⟩, hs'.2⟩

/-- A move turned round. -/
def Mv.neg (x : Mv) : Mv := ⟨x.frm, !x.send, x.msg, x.to⟩
/-- A machine's dual. -/
def dualM (x : Mac) : Mac := ⟨x.st, x.ends, x.moves.map Mv.neg⟩
theorem dualM_parts (x : Mac) : (dualM x).parts = x.parts := by simp [dualM, Mac.parts]
theorem dualM_many (x : Mac) : (dualM x).many = x.many := by simp [dualM, Mac.many]
theorem neg_neg (x : Mv) : x.neg.neg = x := by cases x; simp [Mv.neg]
theorem dual_dual (x : Mac) : dualM (dualM x) = x := by
  have : (Mv.neg ∘ Mv.neg) = id := funext neg_neg
  cases x; simp [dualM, List.map_map, this]
/-- The first j moves are turned round. -/
def turned (l : List Mv) (j : Nat) : List Mv := (l.take j).map Mv.neg ++ l.drop j
theorem turned_zero (l : List Mv) : turned l 0 = l := by simp [turned]
theorem turned_all (l : List Mv) (n : Nat) (h : l.length = n) : turned l n = l.map Mv.neg := by
  subst h
  simp [turned]
theorem turned_at {l : List Mv} {j : Nat} {x : Mv} (h : l[j]? = some x) : (turned l j)[j]? = some x := by
  have hk := at_lt h
  unfold turned
  rw [List.getElem?_append_right (by simp; omega)]
  simp [Nat.min_eq_left (Nat.le_of_lt hk), h]
theorem turned_step {l : List Mv} {j : Nat} {x : Mv} (h : l[j]? = some x) : (turned l j).set j x.neg = turned l (j + 1) := by
  have hk := at_lt h
  unfold turned
  have hl : ((l.take j).map Mv.neg).length = j := by simp; omega
  rw [List.set_append_right _ _ (by omega), hl, Nat.sub_self, List.drop_eq_getElem_cons hk, List.set_cons_zero, List.take_add_one, h]
  simp
end Go.Proofs.Ytckmgbobkffabaa
