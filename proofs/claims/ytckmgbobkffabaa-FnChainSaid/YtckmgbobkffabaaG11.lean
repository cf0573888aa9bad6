/- One cell of an item is written to. No function of the program is spoken of. Which move of a list is meant by a state, a direction and a message: the first one, the numbers of all, a map of the last ones. No function of the program is spoken of. -/
import Derived.Test.YtckmgbobkffabaaG3
import Derived.Test.YtckmgbobkffabaaG10
import Derived.Test.YtckmgbobkffabaaG6
import Derived.Maps.Views
import Derived.Test.YtckmgbobkffabaaG1
namespace Go.Proofs.Ytckmgbobkffabaa
open Go.ChangeShapes Go.WideShapes Go.ChangeAt Go.RowKit
set_option linter.unusedVariables false

theorem at_lt {α : Type} {l : List α} {j : Nat} {x : α} (h : l[j]? = some x) : j < l.length := by
 rcases Nat.lt_or_ge j l.length with k | k
 ·exact k
 ·rw [List.getElem?_eq_none k] at h; cases h
theorem flat_setI {α : Type} {enc : α → List Value} {s : Nat} (hs : ∀ x, (enc x).length = s) {l : List α} {k i : Nat} {x y : α} {v : Value} (hx : l[k]? = some x) (hi : i < s) (he : enc y = (enc x).set i v) : (flatOf enc l).set (k * s + i) v = flatOf enc (l.set k y) := by
 have hk := at_lt hx
 have hc : x :: l.drop (k + 1) = l.drop k := by
  rw [List.getElem?_eq_getElem hk] at hx
  rw [List.drop_eq_getElem_cons hk, Option.some.inj hx]
 have hl0 : l = l.take k ++ x :: l.drop (k + 1) := by rw [hc, List.take_append_drop]
 have hm : l.set k y = l.take k ++ y :: l.drop (k + 1) := by rw [List.set_eq_take_append_cons_drop, if_pos hk]
 rw [hm]
 conv => lhs; rw [hl0]
 rw [flatOf_app, flatOf_app]
 have hl : (flatOf enc (l.take k)).length = k * s := by rw [flatOf_len hs, List.length_take]; congr 1; omega
 rw [List.set_append_right _ _ (by omega), hl, show k * s + i - k * s = i by omega]
 have e1 : flatOf enc (x :: l.drop (k + 1)) = enc x ++ flatOf enc (l.drop (k + 1)) := rfl
 have e2 : flatOf enc (y :: l.drop (k + 1)) = enc y ++ flatOf enc (l.drop (k + 1)) := rfl
 rw [e1, e2, he, List.set_append_left _ _ (by rw [hs]; exact hi)]
theorem own_putI {α : Type} {enc : α → List Value} {s : Nat} (hs : ∀ x, (enc x).length = s) {t : TypeId} {w : World} {B g n c k i : Nat} {l : List α} {x y : α} {v : Value} (h : OwnI enc s t w B (some ⟨g, 0, none⟩) n c l) (hx : l[k]? = some x) (hi : i < s) (he : enc y = (enc x).set i v) :
  OwnI enc s t (w.setCell ⟨g, k * s + i, none⟩ v) B (some ⟨g, 0, none⟩) n c (l.set k y) ∧ w.grownBy (w.setCell ⟨g, k * s + i, none⟩ v) (some g) := by
 have hs' := h.row.stored (k * s + i) v
 rw [flat_setI hs hx hi he] at hs'
 exact ⟨⟨by rw [List.length_set]; exact h.len, hs'.1⟩, hs'.2⟩

/-- A move turned round. -/
def Mv.neg (x : Mv) : Mv := ⟨x.frm, !x.send, x.msg, x.to⟩
/-- A machine's dual. -/
def dualM (x : Mac) : Mac := ⟨x.st, x.ends, x.moves.map Mv.neg⟩
theorem dualM_parts (x : Mac) : (dualM x).parts = x.parts := by simp [dualM, Mac.parts]
theorem dualM_many (x : Mac) : (dualM x).many = x.many := by simp [dualM, Mac.many]
theorem neg_neg (x : Mv) : x.neg.neg = x := by cases x; simp [Mv.neg]
theorem dual_dual (x : Mac) : dualM (dualM x) = x := by
 have : (Mv.neg ∘ Mv.neg) = id := funext neg_neg
 cases x; simp [dualM, List.map_map, this]
/-- The first j moves are turned round. -/
def turned (l : List Mv) (j : Nat) : List Mv := (l.take j).map Mv.neg ++ l.drop j
theorem turned_zero (l : List Mv) : turned l 0 = l := by simp [turned]
theorem turned_all (l : List Mv) (n : Nat) (h : l.length = n) : turned l n = l.map Mv.neg := by
 subst h
 simp [turned]
theorem turned_at {l : List Mv} {j : Nat} {x : Mv} (h : l[j]? = some x) : (turned l j)[j]? = some x := by
 have hk := at_lt h
 unfold turned
 rw [List.getElem?_append_right (by simp; omega)]
 simp [Nat.min_eq_left (Nat.le_of_lt hk), h]
theorem turned_step {l : List Mv} {j : Nat} {x : Mv} (h : l[j]? = some x) : (turned l j).set j x.neg = turned l (j + 1) := by
 have hk := at_lt h
 unfold turned
 have hl : ((l.take j).map Mv.neg).length = j := by simp; omega
 rw [List.set_append_right _ _ (by omega), hl, Nat.sub_self, List.drop_eq_getElem_cons hk, List.set_cons_zero, List.take_add_one, h]
 simp
end Go.Proofs.Ytckmgbobkffabaa
namespace Go.Proofs.Ytckmgbobkffabaa
open Go.ChangeShapes Go.WideShapes Go.ChangeAt Go.RowKit
set_option linter.unusedVariables false

/-- Whether a move has this From, Send and Msg. -/
def hitM (s : Int) (b : Bool) (k : Int) (x : Mv) : Bool := x.frm == s && (x.send == b && x.msg == k)
theorem hitM_iff {s : Int} {b : Bool} {k : Int} {x : Mv} : hitM s b k x = true ↔ x.frm = s ∧ x.send = b ∧ x.msg = k := by simp [hitM]
/-- The place of the first element that p holds of, or -1. -/
def firstAt {α : Type} (p : α → Bool) (l : List α) : Int := match l.findIdx? p with | some i => (i : Int) | none => -1
theorem firstAt_hit {α : Type} {p : α → Bool} {l : List α} {j : Nat} {x : α} (hx : l[j]? = some x) (hb : (l.take j).any p = false) (hp : p x = true) : firstAt p l = (j : Int) := by
 unfold firstAt
 have hk : j < l.length := by
  rcases Nat.lt_or_ge j l.length with h | h
  ·exact h
  ·rw [List.getElem?_eq_none h] at hx; cases hx
 have : l.findIdx? p = some j := by
  rw [List.findIdx?_eq_some_iff_getElem]
  rw [List.getElem?_eq_getElem hk] at hx
  refine ⟨hk, by rw [Option.some.inj hx]; exact hp, fun i hi => ?_⟩
  rw [List.any_eq_false] at hb
  exact hb _ (List.mem_iff_getElem?.2 ⟨i, by rw [List.getElem?_take, if_pos hi, List.getElem?_eq_getElem (by omega)]⟩)
 rw [this]
theorem firstAt_none {α : Type} {p : α → Bool} {l : List α} (h : l.any p = false) : firstAt p l = -1 := by
 unfold firstAt
 have : l.findIdx? p = none := by
  rw [List.findIdx?_eq_none_iff]
  intro x hx
  rw [List.any_eq_false] at h
  simpa using h x hx
 rw [this]
theorem firstAt_cases {α : Type} (p : α → Bool) (l : List α) : (firstAt p l = -1 ∧ l.any p = false) ∨ ∃ (j : Nat) (x : α), firstAt p l = (j : Int) ∧ l[j]? = some x ∧ p x = true ∧ (l.take j).any p = false := by
 cases h : l.any p with
 | false => exact Or.inl ⟨firstAt_none h, rfl⟩
 | true =>
  refine Or.inr ?_
  cases e : l.findIdx? p with
  | none =>
   rw [List.findIdx?_eq_none_iff] at e
   obtain ⟨x, hx, hp⟩ := List.any_eq_true.1 h
   rw [e x hx] at hp
   cases hp
  | some j =>
   rw [List.findIdx?_eq_some_iff_getElem] at e
   obtain ⟨hj, hp, hb⟩ := e
   have hb' : (l.take j).any p = false := by
    rw [List.any_eq_false]
    intro x hx
    obtain ⟨i, hi⟩ := List.mem_iff_getElem?.1 hx
    rw [List.getElem?_take] at hi
    split at hi
    ·rename_i hij
     rw [List.getElem?_eq_getElem (by omega)] at hi
     rw [← Option.some.inj hi]
     exact hb i hij
    ·cases hi
   exact ⟨j, l[j], firstAt_hit (List.getElem?_eq_getElem hj) hb' hp, List.getElem?_eq_getElem hj, hp, hb'⟩
theorem firstAt_bound {α : Type} (p : α → Bool) (l : List α) : -1 ≤ firstAt p l ∧ firstAt p l ≤ (l.length : Int) := by
 rcases firstAt_cases p l with ⟨e, _⟩ | ⟨j, x, e, hx, _⟩
 ·rw [e]; omega
 ·have hk : j < l.length := by
   rcases Nat.lt_or_ge j l.length with h | h
   ·exact h
   ·rw [List.getElem?_eq_none h] at hx; cases hx
  rw [e]; omega
/-- The index of the first move with this From, Send and Msg. -/
def moveOf (x : Mac) (s : Int) (b : Bool) (k : Int) : Int := firstAt (hitM s b k) x.moves

def fromM (s : Int) (b : Bool) (x : Mv) : Bool := x.frm == s && x.send == b
def msgsOf (l : List Mv) (s : Int) (b : Bool) : List Int := (l.filter (fromM s b)).map Mv.msg
theorem msgs_yes {l : List Mv} {s : Int} {b : Bool} {j : Nat} {x : Mv} (hx : l[j]? = some x) (h : fromM s b x = true) : msgsOf (l.take (j + 1)) s b = msgsOf (l.take j) s b ++ [x.msg] := by
 unfold msgsOf
 rw [List.take_add_one, hx]
 simp [h]
theorem msgs_no {l : List Mv} {s : Int} {b : Bool} {j : Nat} {x : Mv} (hx : l[j]? = some x) (h : fromM s b x = false) : msgsOf (l.take (j + 1)) s b = msgsOf (l.take j) s b := by
 unfold msgsOf
 rw [List.take_add_one, hx]
 simp [h]
theorem msgs_len (l : List Mv) (s : Int) (b : Bool) : (msgsOf l s b).length ≤ l.length := by
 unfold msgsOf
 rw [List.length_map]
 exact List.length_filter_le _ _
/-- The numbers of all moves with this From and Send, ascending, each once. -/
def movesFrom (x : Mac) (s : Int) (b : Bool) : List Int := puts [] (msgsOf x.moves s b)
theorem movesFrom_len (x : Mac) (s : Int) (b : Bool) : (movesFrom x s b).length ≤ x.moves.length := by
 have h1 := puts_len (msgsOf x.moves s b) []
 have h2 := msgs_len x.moves s b
 unfold movesFrom
 simp at h1
 omega

/-- Whether two moves have the same From, Send and Msg. -/
def sameKey (x y : Mv) : Bool := hitM x.frm x.send x.msg y
theorem keyL_inj {s s' k k' : Int} {b b' : Bool} (hs : (Lit.int .i64 s).wf = true) (hk : (Lit.int .i64 k).wf = true) (hs' : (Lit.int .i64 s').wf = true) (hk' : (Lit.int .i64 k').wf = true) (h : keyL s b k = keyL s' b' k') : s = s' ∧ b = b' ∧ k = k' := by
 have h1 := key_read b hs hk
 have h2 := key_read b' hs' hk'
 rw [h] at h1
 have h3 := key_law.inj h1 h2
 simp [keyV] at h3
 exact h3
def mr : List Mv → DataW Value
 | [] => .map []
 | x :: t => (mr t).put (keyL x.frm x.send x.msg) (.held x.val)
section
open Go.Maps
theorem mr_isMap : ∀ l : List Mv, IsMap (mr l)
 | [] => isMap_empty
 | x :: t => (mr_isMap t).put _ _
theorem mr_tidy : ∀ l : List Mv, Tidy (mr l)
 | [] => tidy_empty
 | x :: t => (mr_tidy t).put (by simp [keyL, WideAt.IsKeyLit]) _
theorem mr_has {s k : Int} (b : Bool) (hs : (Lit.int .i64 s).wf = true) (hk : (Lit.int .i64 k).wf = true) : ∀ l : List Mv, (∀ x ∈ l, (Lit.int .i64 x.frm).wf = true ∧ (Lit.int .i64 x.msg).wf = true) → Maps.has (mr l) (keyL s b k) = l.any (hitM s b k)
 | [], _ => by simp [mr, Maps.has]
 | x :: t, h => by
  have ih := mr_has b hs hk t (fun y hy => h y (by simp [hy]))
  have hx := h x (by simp)
  cases e : hitM s b k x with
  | true =>
   obtain ⟨e1, e2, e3⟩ := hitM_iff.1 e
   rw [mr, e1, e2, e3, has_put_same (mr_isMap t) (by simp [keyL, WideAt.IsKeyLit])]
   simp [e]
  | false =>
   have hne : keyL s b k ≠ keyL x.frm x.send x.msg := fun q => by
    obtain ⟨q1, q2, q3⟩ := keyL_inj hs hk hx.1 hx.2 q
    rw [hitM_iff.2 ⟨q1.symm, q2.symm, q3.symm⟩] at e
    cases e
   rw [mr, has_put_other hne, ih]
   simp [e]
theorem mr_at {s k : Int} (b : Bool) (z : DataW Value) (hs : (Lit.int .i64 s).wf = true) (hk : (Lit.int .i64 k).wf = true) : ∀ l : List Mv, (∀ x ∈ l, (Lit.int .i64 x.frm).wf = true ∧ (Lit.int .i64 x.msg).wf = true) →
  (mr l).atKey (keyL s b k) z = match l.find? (hitM s b k) with | some x => .held x.val | none => z
 | [], _ => by simp [mr, DataW.atKey]
 | x :: t, h => by
  have ih := mr_at b z hs hk t (fun y hy => h y (by simp [hy]))
  have hx := h x (by simp)
  cases e : hitM s b k x with
  | true =>
   obtain ⟨e1, e2, e3⟩ := hitM_iff.1 e
   rw [mr, e1, e2, e3, atKey_put_same (mr_isMap t) (by simp [keyL, WideAt.IsKeyLit])]
   simp [e]
  | false =>
   have hne : keyL s b k ≠ keyL x.frm x.send x.msg := fun q => by
    obtain ⟨q1, q2, q3⟩ := keyL_inj hs hk hx.1 hx.2 q
    rw [hitM_iff.2 ⟨q1.symm, q2.symm, q3.symm⟩] at e
    cases e
   rw [mr, atKey_put_other hne, ih]
   simp [e]
theorem mr_size_le : ∀ l : List Mv, Maps.size (mr l) ≤ l.length
 | [] => by simp [mr, Maps.size]
 | x :: t => by
  rw [mr, size_put (mr_tidy _)]
  have := mr_size_le t
  split <;> simp <;> omega
theorem mr_size : ∀ l : List Mv, (∀ x ∈ l, (Lit.int .i64 x.frm).wf = true ∧ (Lit.int .i64 x.msg).wf = true) → (Maps.size (mr l) = l.length ↔ l.Pairwise (fun x y => sameKey x y = false))
 | [], _ => by simp [mr, Maps.size]
 | x :: t, h => by
  have h1 := mr_size t (fun y hy => h y (by simp [hy]))
  have h2 := mr_size_le t
  have hx := h x (by simp)
  rw [mr, size_put (mr_tidy _), mr_has x.send hx.1 hx.2 t (fun y hy => h y (by simp [hy])), List.pairwise_cons]
  cases e : t.any (hitM x.frm x.send x.msg) with
  | true =>
   simp only [if_true, List.length_cons]
   constructor
   ·intro q; omega
   ·rintro ⟨q, _⟩
    obtain ⟨y, hy, hp⟩ := List.any_eq_true.1 e
    have := q y hy
    unfold sameKey at this
    rw [hp] at this
    cases this
  | false =>
   simp only [Bool.false_eq_true, if_false, List.length_cons]
   rw [List.any_eq_false] at e
   constructor
   ·intro q
    exact ⟨fun y hy => by simpa [sameKey] using e y hy, h1.1 (by omega)⟩
   ·rintro ⟨_, q⟩
    have := h1.2 q
    omega
end
end Go.Proofs.Ytckmgbobkffabaa
