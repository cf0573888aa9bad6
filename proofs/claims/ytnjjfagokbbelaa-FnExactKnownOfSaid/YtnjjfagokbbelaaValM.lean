/- The helpers of the exact laws at lists of values: marked, looked at. -/
import Derived.Test.YtnjjfagokbbelaaValB
import Derived.Test.YtnjjfagokbbelaaIntS
import Derived.Test.YtnjjfagokbbelaaFieldT
import Derived.Deep.QuietTactic
import Derived.BigQuiet
import Derived.RegionTactic
import Derived.Handy
namespace Go.Proofs.Ytnjjfagokbbelaa
open Go.ChangeShapes Go.WideShapes Go.ChangeAt Go.RowKit
set_option linter.unusedVariables false

/-- Only blocks from lo on and below hi have changed, or are new. -/
structure Inside (lo hi : Nat) (w w' : World) : Prop where
  os : w'.os = w.os
  tape : w'.tape = w.tape
  output : w'.output = w.output
  size : w.heap.size ≤ w'.heap.size
  block : ∀ k, k < w.heap.size → k < lo ∨ hi ≤ k → w'.heap[k]? = w.heap[k]?
theorem Inside.refl (lo hi : Nat) (w : World) : Inside lo hi w w := ⟨rfl, rfl, rfl, Nat.le_refl _, fun _ _ _ => rfl⟩
theorem Inside.trans {lo hi : Nat} {a b c : World} (h : Inside lo hi a b) (k : Inside lo hi b c) : Inside lo hi a c :=
  ⟨k.os.trans h.os, k.tape.trans h.tape, k.output.trans h.output, Nat.le_trans h.size k.size, fun i hi hr => (k.block i (Nat.lt_of_lt_of_le hi h.size) hr).trans (h.block i hi hr)⟩
theorem Inside.row {lo hi : Nat} {w w' : World} {row : Option Nat} (h : w.grownBy w' row) (hr : ∀ r, row = some r → lo ≤ r ∧ r < hi) : Inside lo hi w w' :=
  ⟨h.os, h.tape, h.output, h.size, fun k hk hd => h.block k hk fun e => by have := hr k e.symm; omega⟩
theorem Inside.to {lo hi B0 : Nat} {w0 w w' : World} (h : Inside lo hi w w') (hb : Below B0 w0 w) (h0 : B0 ≤ lo) (h1 : B0 ≤ w.heap.size) : Below B0 w0 w' :=
  hb.trans ⟨h.os, h.tape, h.output, h.size, fun k hk => h.block k (by omega) (Or.inl (by omega))⟩
section
variable {tO tI : TypeId} {w w' : World} {B S n c lo hi : Nat} {a : Option Addr} {l : List Vl} {hs : List Vh}
/-- The one block of a row, as it was. -/
theorem Inside.one (h : Inside lo hi w w') (ad : Addr) (hd : ad.block < lo ∨ hi ≤ ad.block) (hs : ad.block < w.heap.size) : ∃ w2 : World, w.grownBy w2 none ∧ w2.heap[ad.block]? = w'.heap[ad.block]? := ⟨w, grown_below (Below.refl _ _) _, (h.block _ hs hd).symm⟩
theorem row_aside {t : TypeId} {s : Nat} {v : Value} {xs : List Value} (h : w.ownsRow B t s v n xs) (hg : Inside lo hi w w') (hd : ∀ r, v.ownBlock = some r → r < lo ∨ hi ≤ r) : w'.ownsRow B t s v n xs := by
  refine ⟨h.1, ?_⟩
  rcases h.2 with hn | ⟨g, cap, cur, rfl, hb, hgg, rest⟩
  · exact .inl hn
  · refine .inr ⟨g, cap, cur, rfl, hb, ?_, rest⟩
    rw [hg.block g (Array.getElem?_eq_some_iff.1 hgg).1 (hd g rfl)]
    exact hgg
theorem block_of {p : Option Addr} {m d r : Nat} (h : Value.ownBlock (.slice p m d) = some r) : ∃ ad, p = some ad ∧ ad.block = r := by
  cases p with
  | none => simp [Value.ownBlock] at h
  | some ad => simp only [Value.ownBlock, Option.some.injEq] at h; exact ⟨ad, rfl, h⟩
theorem Own.aside {k : IntKind} {t : TypeId} {m d lo' hi' : Nat} {p : Option Addr} {y : List Int} (h : Own k t w B p m d y) (hg : Inside lo hi w w') (s : Span p lo' hi') (hd : hi ≤ lo' ∨ hi' ≤ lo) : Own k t w' B p m d y :=
  ⟨h.1, row_aside h.2 hg fun r e => by
    obtain ⟨ad, e1, rfl⟩ := block_of e
    have := s ad e1
    omega⟩
theorem OwnI.aside {α : Type} {enc : α → List Value} {s : Nat} {t : TypeId} {m d lo' hi' : Nat} {p : Option Addr} {y : List α} (h : OwnI enc s t w B p m d y) (hg : Inside lo hi w w') (sp : Span p lo' hi') (hd : hi ≤ lo' ∨ hi' ≤ lo) : OwnI enc s t w' B p m d y :=
  ⟨h.1, row_aside h.2 hg fun r e => by
    obtain ⟨ad, e1, rfl⟩ := block_of e
    have := sp ad e1
    omega⟩
theorem OwnVB.aside (h : OwnVB S tO tI w B a n c l) (hg : Inside lo hi w w') (hd : hi ≤ B ∨ S ≤ lo) : OwnVB S tO tI w' B a n c l := by
  obtain ⟨hs, h1, h2, h3⟩ := h
  refine ⟨hs, h1.aside hg (lo' := B) (hi' := S) (fun ad e => ⟨(h1.span ad e).1, h3.1 ad e⟩) hd, ⟨h2.1, fun j g x hk hx => ?_, h2.2.2⟩, h3⟩
  obtain ⟨e, ho, hd1⟩ := h2.2.1 j g x hk hx
  exact ⟨e, ho.aside hg (lo' := B) (hi' := S) (fun ad e => ⟨(ho.span ad e).1, h3.2 j g ad hk e⟩) hd, hd1⟩
/-- Marks on another slice. -/
theorem OwnVB.apart {b : Option Addr} {m d lo' hi' : Nat} (h : OwnVB S tO tI w B a n c l) (hg : w.grownBy w' (Value.ownBlock (.slice b m d))) (s' : Span b lo' hi') (hd : hi' ≤ B ∨ S ≤ lo') : OwnVB S tO tI w' B a n c l :=
  h.far hg fun r e => by
    obtain ⟨ad, e1, rfl⟩ := block_of e
    have := s' ad e1
    omega
theorem OwnVB.len (h : OwnVB S tO tI w B a n c l) : l.length = n := h.ownV.len
theorem OwnVB.room (h : OwnVB S tO tI w B a n c l) : n ≤ c ∧ (c : Int) ≤ 9223372036854775807 := h.ownV.room
theorem OwnVB.vals (h : OwnVB S tO tI w B a n c l) : Vals w a n l := h.ownV.vals
/-- The number of a value is stored. -/
theorem OwnVB.putNum {g : Nat} (h : OwnVB S tO tI w B (some ⟨g, 0, none⟩) n c l) {i : Nat} {x : Vl} (hx : l[i]? = some x) (k : Int) :
    OwnVB S tO tI (w.setCell ⟨g, i * 2, none⟩ (.int .i64 k)) B (some ⟨g, 0, none⟩) n c (l.set i ⟨k, x.items⟩) ∧ Inside B S w (w.setCell ⟨g, i * 2, none⟩ (.int .i64 k)) := by
  obtain ⟨hs, h1, h2, hL⟩ := h
  have hih : i < hs.length := by rw [h2.1]; exact lt_of_some hx
  have hg := List.getElem?_eq_getElem hih
  have h3 := h1.2.stored (i * 2) (.int .i64 k)
  rw [flatVh_num hs i _ k hg] at h3
  obtain ⟨e1, ho, hd⟩ := h2.2.1 i _ x hg hx
  refine ⟨⟨_, ⟨by rw [List.length_set]; exact h1.len, h3.1⟩, h2.set hih ⟨k, (hs[i]).p, (hs[i]).m, (hs[i]).c⟩ x.items (Own.beside (b := some ⟨g, 0, none⟩) (n := n) (c := c) ho h3.2 hd) (fun j v y hj hv hy => ?_) hd (fun j v ad bd hj hv ha hb => h2.other hj hv hg ad bd ha hb), hL.1, fun j v ad hv e => ?_⟩, Inside.row h3.2 fun r e => ?_⟩
  · obtain ⟨_, ho2, hd2⟩ := h2.2.1 j v y hv hy
    exact Own.beside (b := some ⟨g, 0, none⟩) (n := n) (c := c) ho2 h3.2 hd2
  · by_cases q : j = i
    · subst q
      rw [List.getElem?_set_self hih] at hv
      cases hv
      exact hL.2 j _ ad hg e
    · rw [List.getElem?_set_ne (by omega)] at hv
      exact hL.2 j v ad hv e
  · cases e
    exact ⟨(h1.span _ rfl).1, hL.1 _ rfl⟩
/-- The integers of a value are overwritten in place. -/
theorem OwnVB.over (h1 : OwnI Vh.enc 2 tO w B a n c hs) (h2 : RowsV tI w B a hs l) (hL : Lim S a hs) {i : Nat} {x : Vl} {v : Vh} (hx : l[i]? = some x) (hv : hs[i]? = some v) {y : List Int} (hg : w.grownBy w' (Value.ownBlock (.slice v.p v.m v.c))) (ho : Own .i64 tI w' B v.p v.m v.c y) :
    OwnVB S tO tI w' B a n c (l.set i ⟨x.num, y⟩) ∧ Inside B S w w' := by
  have hih : i < hs.length := by rw [h2.1]; exact lt_of_some hx
  obtain ⟨e1, hov, hdv⟩ := h2.2.1 i v x hv hx
  have e2 : (⟨x.num, y⟩ : Vl) = ⟨v.num, y⟩ := by rw [e1]
  have e3 : hs = hs.set i v := by
    apply List.ext_getElem?
    intro j
    by_cases q : j = i
    · subst q
      rw [List.getElem?_set_self hih, hv]
    · rw [List.getElem?_set_ne (by omega)]
  rw [e2]
  refine ⟨⟨hs, h1.far hg fun ad e q => ?_, ?_, hL⟩, Inside.row hg fun r e => ?_⟩
  · obtain ⟨bd, hb, hbb⟩ := block_of q
    exact hdv bd ad hb e hbb
  · rw [e3]
    refine h2.set hih v y ho (fun j g z hj hq hz => ?_) hdv (fun j g ad bd hj hq ha hb => h2.other hj hq hv ad bd ha hb)
    obtain ⟨_, ho2, hd2⟩ := h2.2.1 j g z hq hz
    refine ho2.far hg fun ad e q => ?_
    obtain ⟨bd, hb, hbb⟩ := block_of q
    exact h2.other hj hq hv bd ad hb e hbb
  · obtain ⟨bd, hb, rfl⟩ := block_of e
    exact ⟨(hov.span bd hb).1, hL.2 i v bd hv hb⟩
end
/-- The marks that are laid: each one more than the one before. -/
def marksV (j : Nat) : List Vl → List Vl
  | [] => []
  | x :: t => ⟨((j : Nat) : Int), marksIntS (j + 1) x.items.length⟩ :: marksV (j + 1 + x.items.length) t
theorem marksV_len : ∀ (l : List Vl) (j : Nat), (marksV j l).length = l.length
  | [], _ => rfl
  | x :: t, j => by rw [marksV, List.length_cons, List.length_cons, marksV_len t]
theorem marksV_app : ∀ (l m : List Vl) (j : Nat), marksV j (l ++ m) = marksV j l ++ marksV (j + l.length + itemsOf l) m
  | [], m, j => by simp [marksV, itemsOf]
  | x :: t, m, j => by
    rw [List.cons_append, marksV, marksV_app t m, marksV, List.cons_append]
    congr 3
    simp only [itemsOf, List.length_cons, List.map_cons, List.sum_cons]
    omega
theorem marksV_take {l : List Vl} {j : Nat} {x : Vl} (k : Nat) (h : l[j]? = some x) : marksV k (l.take (j + 1)) = marksV k (l.take j) ++ [⟨((k + j + itemsOf (l.take j) : Nat) : Int), marksIntS (k + j + itemsOf (l.take j) + 1) x.items.length⟩] := by
  have hj := lt_of_some h
  rw [List.take_add_one, h, Option.toList_some, marksV_app, List.length_take, Nat.min_eq_left (by omega)]
  rfl
theorem marksV_at : ∀ {l : List Vl} {j : Nat} {x : Vl} (k : Nat), l[j]? = some x → (marksV k l)[j]? = some ⟨((k + j + itemsOf (l.take j) : Nat) : Int), marksIntS (k + j + itemsOf (l.take j) + 1) x.items.length⟩
  | [], j, x, k, h => by simp at h
  | y :: t, 0, x, k, h => by
    have : y = x := by simpa using h
    subst this
    simp [marksV, itemsOf]
  | y :: t, j + 1, x, k, h => by
    rw [marksV, List.getElem?_cons_succ, marksV_at _ (by simpa using h), List.take_succ_cons]
    have e : itemsOf (y :: t.take j) = y.items.length + itemsOf (t.take j) := by simp [itemsOf]
    rw [e]
    congr 2
    · omega
    · congr 1
      omega
theorem marksV_items : ∀ (l : List Vl) (j : Nat), itemsOf (marksV j l) = itemsOf l
  | [], _ => rfl
  | x :: t, j => by
    have := marksV_items t (j + 1 + x.items.length)
    unfold itemsOf at *
    rw [marksV, List.map_cons, List.map_cons, List.sum_cons, List.sum_cons, this, marksIntS_len]
theorem set_mid {α : Type} (A : List α) (p : Nat) (h : A.length = p) (x y : α) (R : List α) : (A ++ x :: R).set p y = A ++ y :: R := by
  subst h
  rw [List.set_append_right _ _ (Nat.le_refl _), Nat.sub_self, List.set_cons_zero]
theorem get_mid {α : Type} (A : List α) (p : Nat) (h : A.length = p) (x : α) (R : List α) : (A ++ x :: R)[p]? = some x := by
  subst h
  rw [List.getElem?_append_right (Nat.le_refl _), Nat.sub_self]
  rfl
theorem drop_at {l : List Vl} {j : Nat} {x : Vl} (h : l[j]? = some x) : l.drop j = x :: l.drop (j + 1) := by
  have hj := lt_of_some h
  rw [List.drop_eq_getElem_cons hj]
  rw [List.getElem?_eq_getElem hj] at h
  cases h
  rfl

end Go.Proofs.Ytnjjfagokbbelaa
