/- Which move of a list is meant by a state, a direction and a message: the first one, the numbers of all, a map of the last ones. No function of the program is spoken of. The index of the first move with a key, by the model. -/
import Derived.Test.YtckmgbobkffabaaGreatG10
import Derived.Test.YtckmgbobkffabaaGreatG6
import Derived.Maps.Views
import Derived.Test.YtckmgbobkffabaaGreatG7
import Derived.Handy
import Derived.Test.YtckmgbobkffabaaGreatG1
namespace Go.Proofs.YtckmgbobkffabaaGreat
open Go.ChangeShapes Go.WideShapes Go.ChangeAt Go.RowKit
set_option linter.unusedVariables false

/-- Whether a move has this From, Send and Msg. -/
def hitM (s : Int) (b : Bool) (k : Int) (x : Mv) : Bool := x.frm == s && (x.send == b && x.msg == k)
theorem hitM_iff {s : Int} {b : Bool} {k : Int} {x : Mv} : hitM s b k x = true ↔ x.frm = s ∧ x.send = b ∧ x.msg = k := by simp [hitM]
/-- The place of the first element that p holds of, or -1. -/
def firstAt {α : Type} (p : α → Bool) (l : List α) : Int := match l.findIdx? p with | some i => (i : Int) | none => -1
theorem firstAt_hit {α : Type} {p : α → Bool} {l : List α} {j : Nat} {x : α} (hx : l[j]? = some x) (hb : (l.take j).any p = false) (hp : p x = true) : firstAt p l = (j : Int) := by
 unfold firstAt
 have hk : j < l.length := by
  rcases Nat.lt_or_ge j l.length with h | h
  ·exact h
  ·rw [List.getElem?_eq_none h] at hx; cases hx
 have : l.findIdx? p = some j := by
  rw [List.findIdx?_eq_some_iff_getElem]
  rw [List.getElem?_eq_getElem hk] at hx
  refine ⟨hk, by rw [Option.some.inj hx]; exact hp, fun i hi => ?_⟩
  rw [List.any_eq_false] at hb
  exact hb _ (List.mem_iff_getElem?.2 ⟨i, by rw [List.getElem?_take, if_pos hi, List.getElem?_eq_getElem (by omega)]⟩)
 rw [this]
theorem firstAt_none {α : Type} {p : α → Bool} {l : List α} (h : l.any p = false) : firstAt p l = -1 := by
 unfold firstAt
 have : l.findIdx? p = none := by
  rw [List.findIdx?_eq_none_iff]
  intro x hx
  rw [List.any_eq_false] at h
  simpa using h x hx
 rw [this]
theorem firstAt_cases {α : Type} (p : α → Bool) (l : List α) : (firstAt p l = -1 ∧ l.any p = false) ∨ ∃ (j : Nat) (x : α), firstAt p l = (j : Int) ∧ l[j]? = some x ∧ p x = true ∧ (l.take j).any p = false := by
 cases h : l.any p with
 | false => exact Or.inl ⟨firstAt_none h, rfl⟩
 | true =>
  refine Or.inr ?_
  cases e : l.findIdx? p with
  | none =>
   rw [List.findIdx?_eq_none_iff] at e
   obtain ⟨x, hx, hp⟩ := List.any_eq_true.1 h
   rw [e x hx] at hp
   cases hp
  | some j =>
   rw [List.findIdx?_eq_some_iff_getElem] at e
   obtain ⟨hj, hp, hb⟩ := e
   have hb' : (l.take j).any p = false := by
    rw [List.any_eq_false]
    intro x hx
    obtain ⟨i, hi⟩ := List.mem_iff_getElem?.1 hx
    rw [List.getElem?_take] at hi
    split at hi
    ·rename_i hij
     rw [List.getElem?_eq_getElem (by omega)] at hi
     rw [← Option.some.inj hi]
     exact hb i hij
    ·cases hi
   exact ⟨j, l[j], firstAt_hit (List.getElem?_eq_getElem hj) hb' hp, List.getElem?_eq_getElem hj, hp, hb'⟩
theorem firstAt_bound {α : Type} (p : α → Bool) (l : List α) : -1 ≤ firstAt p l ∧ firstAt p l ≤ (l.length : Int) := by
 rcases firstAt_cases p l with ⟨e, _⟩ | ⟨j, x, e, hx, _⟩
 ·rw [e]; omega
 ·have hk : j < l.length := by
   rcases Nat.lt_or_ge j l.length with h | h
   ·exact h
   ·rw [List.getElem?_eq_none h] at hx; cases hx
  rw [e]; omega
/-- The index of the first move with this From, Send and Msg. -/
def moveOf (x : Mac) (s : Int) (b : Bool) (k : Int) : Int := firstAt (hitM s b k) x.moves

def fromM (s : Int) (b : Bool) (x : Mv) : Bool := x.frm == s && x.send == b
def msgsOf (l : List Mv) (s : Int) (b : Bool) : List Int := (l.filter (fromM s b)).map Mv.msg
theorem msgs_yes {l : List Mv} {s : Int} {b : Bool} {j : Nat} {x : Mv} (hx : l[j]? = some x) (h : fromM s b x = true) : msgsOf (l.take (j + 1)) s b = msgsOf (l.take j) s b ++ [x.msg] := by
 unfold msgsOf
 rw [List.take_add_one, hx]
 simp [h]
theorem msgs_no {l : List Mv} {s : Int} {b : Bool} {j : Nat} {x : Mv} (hx : l[j]? = some x) (h : fromM s b x = false) : msgsOf (l.take (j + 1)) s b = msgsOf (l.take j) s b := by
 unfold msgsOf
 rw [List.take_add_one, hx]
 simp [h]
theorem msgs_len (l : List Mv) (s : Int) (b : Bool) : (msgsOf l s b).length ≤ l.length := by
 unfold msgsOf
 rw [List.length_map]
 exact List.length_filter_le _ _
/-- The numbers of all moves with this From and Send, ascending, each once. -/
def movesFrom (x : Mac) (s : Int) (b : Bool) : List Int := puts [] (msgsOf x.moves s b)
theorem movesFrom_len (x : Mac) (s : Int) (b : Bool) : (movesFrom x s b).length ≤ x.moves.length := by
 have h1 := puts_len (msgsOf x.moves s b) []
 have h2 := msgs_len x.moves s b
 unfold movesFrom
 simp at h1
 omega

/-- Whether two moves have the same From, Send and Msg. -/
def sameKey (x y : Mv) : Bool := hitM x.frm x.send x.msg y
theorem keyL_inj {s s' k k' : Int} {b b' : Bool} (hs : (Lit.int .i64 s).wf = true) (hk : (Lit.int .i64 k).wf = true) (hs' : (Lit.int .i64 s').wf = true) (hk' : (Lit.int .i64 k').wf = true) (h : keyL s b k = keyL s' b' k') : s = s' ∧ b = b' ∧ k = k' := by
 have h1 := key_read b hs hk
 have h2 := key_read b' hs' hk'
 rw [h] at h1
 have h3 := key_law.inj h1 h2
 simp [keyV] at h3
 exact h3
def mr : List Mv → DataW Value
 | [] => .map []
 | x :: t => (mr t).put (keyL x.frm x.send x.msg) (.held x.val)
section
open Go.Maps
theorem mr_isMap : ∀ l : List Mv, IsMap (mr l)
 | [] => isMap_empty
 | x :: t => (mr_isMap t).put _ _
theorem mr_tidy : ∀ l : List Mv, Tidy (mr l)
 | [] => tidy_empty
 | x :: t => (mr_tidy t).put (by simp [keyL, WideAt.IsKeyLit]) _
theorem mr_has {s k : Int} (b : Bool) (hs : (Lit.int .i64 s).wf = true) (hk : (Lit.int .i64 k).wf = true) : ∀ l : List Mv, (∀ x ∈ l, (Lit.int .i64 x.frm).wf = true ∧ (Lit.int .i64 x.msg).wf = true) → Maps.has (mr l) (keyL s b k) = l.any (hitM s b k)
 | [], _ => by simp [mr, Maps.has]
 | x :: t, h => by
  have ih := mr_has b hs hk t (fun y hy => h y (by simp [hy]))
  have hx := h x (by simp)
  cases e : hitM s b k x with
  | true =>
   obtain ⟨e1, e2, e3⟩ := hitM_iff.1 e
   rw [mr, e1, e2, e3, has_put_same (mr_isMap t) (by simp [keyL, WideAt.IsKeyLit])]
   simp [e]
  | false =>
   have hne : keyL s b k ≠ keyL x.frm x.send x.msg := fun q => by
    obtain ⟨q1, q2, q3⟩ := keyL_inj hs hk hx.1 hx.2 q
    rw [hitM_iff.2 ⟨q1.symm, q2.symm, q3.symm⟩] at e
    cases e
   rw [mr, has_put_other hne, ih]
   simp [e]
theorem mr_at {s k : Int} (b : Bool) (z : DataW Value) (hs : (Lit.int .i64 s).wf = true) (hk : (Lit.int .i64 k).wf = true) : ∀ l : List Mv, (∀ x ∈ l, (Lit.int .i64 x.frm).wf = true ∧ (Lit.int .i64 x.msg).wf = true) →
  (mr l).atKey (keyL s b k) z = match l.find? (hitM s b k) with | some x => .held x.val | none => z
 | [], _ => by simp [mr, DataW.atKey]
 | x :: t, h => by
  have ih := mr_at b z hs hk t (fun y hy => h y (by simp [hy]))
  have hx := h x (by simp)
  cases e : hitM s b k x with
  | true =>
   obtain ⟨e1, e2, e3⟩ := hitM_iff.1 e
   rw [mr, e1, e2, e3, atKey_put_same (mr_isMap t) (by simp [keyL, WideAt.IsKeyLit])]
   simp [e]
  | false =>
   have hne : keyL s b k ≠ keyL x.frm x.send x.msg := fun q => by
    obtain ⟨q1, q2, q3⟩ := keyL_inj hs hk hx.1 hx.2 q
    rw [hitM_iff.2 ⟨q1.symm, q2.symm, q3.symm⟩] at e
    cases e
   rw [mr, atKey_put_other hne, ih]
   simp [e]
theorem mr_size_le : ∀ l : List Mv, Maps.size (mr l) ≤ l.length
 | [] => by simp [mr, Maps.size]
 | x :: t => by
  rw [mr, size_put (mr_tidy _)]
  have := mr_size_le t
  split <;> simp <;> omega
theorem mr_size : ∀ l : List Mv, (∀ x ∈ l, (Lit.int .i64 x.frm).wf = true ∧ (Lit.int .i64 x.msg).wf = true) → (Maps.size (mr l) = l.length ↔ l.Pairwise (fun x y => sameKey x y = false))
 | [], _ => by simp [mr, Maps.size]
 | x :: t, h => by
  have h1 := mr_size t (fun y hy => h y (by simp [hy]))
  have h2 := mr_size_le t
  have hx := h x (by simp)
  rw [mr, size_put (mr_tidy _), mr_has x.send hx.1 hx.2 t (fun y hy => h y (by simp [hy])), List.pairwise_cons]
  cases e : t.any (hitM x.frm x.send x.msg) with
  | true =>
   simp only [if_true, List.length_cons]
   constructor
   ·intro q; omega
   ·rintro ⟨q, _⟩
    obtain ⟨y, hy, hp⟩ := List.any_eq_true.1 e
    have := q y hy
    unfold sameKey at this
    rw [hp] at this
    cases this
  | false =>
   simp only [Bool.false_eq_true, if_false, List.length_cons]
   rw [List.any_eq_false] at e
   constructor
   ·intro q
    exact ⟨fun y hy => by simpa [sameKey] using e y hy, h1.1 (by omega)⟩
   ·rintro ⟨_, q⟩
    have := h1.2 q
    omega
end
end Go.Proofs.YtckmgbobkffabaaGreat
namespace Go.Proofs.YtckmgbobkffabaaGreat
open Go.ChangeShapes Go.WideShapes Go.ChangeAt Go.RowKit Go.Sort
set_option linter.unusedVariables false
set_option linter.unusedSimpArgs false

set_option maxHeartbeats 1000000 in
set_option maxRecDepth 100000 in
theorem specMoveOf_any {w : World} {v : Value} {x : Mac} (s : Int) (b : Bool) (k : Int) (h : MacW w v x) : Calls Tryz.prog 42 #[v, .int .i64 s, .bool b, .int .i64 k] w (Told (.int .i64 (moveOf x s b k)) w) := by
 obtain ⟨a, n, c, q, m, d, rfl, h1, h2, h3⟩ := h
 have HB : Hid (Below w.heap.size w (w.alloc (.cells #[.int .i64 x.st, .slice a n c, .slice q m d] 27))) := Lib.hid (alloc_same w _)
 have HX : Hid ((w.alloc (.cells #[.int .i64 x.st, .slice a n c, .slice q m d] 27)).heap[w.heap.size]? = some (.cells #[.int .i64 x.st, .slice a n c, .slice q m d] 27 (0, 0))) := Lib.hid (heap_alloc_new w (.cells #[.int .i64 x.st, .slice a n c, .slice q m d] 27 (0, 0)))
 have hsz : (w.alloc (.cells #[.int .i64 x.st, .slice a n c, .slice q m d] 27)).heap.size = w.heap.size + 1 := by simp
 have H2 := Lib.hid (h2.same HB.out)
 have hl := h2.len
 have hfit := h2.fits
 clear h1 h2 h3
 go_enter Tryz.func42, Tryz.ntmps42
 go_wp2_with fail
 generalize (w.alloc (.cells #[.int .i64 x.st, .slice a n c, .slice q m d] 27)) = W0 at *
 go_loopw [9] (fun i wr => ∃ j : Nat, j ≤ m ∧ i = .int .i64 j ∧ (x.moves.take j).any (hitM s b k) = false ∧ Below W0.heap.size W0 wr) (fun i _ => m - (intOf i).toNat)
 case atStart => exact ⟨0, Nat.zero_le _, rfl, by simp, Below.refl _ _⟩
 case round =>
  obtain ⟨j, hj, rfl, hno, hb⟩ := hrel
  have HN := Lib.hid hno
  have HB9 := Lib.hid hb
  clear hno hb
  have hX1 := (HB9.out.block w.heap.size (by omega)).trans HX.out
  obtain ⟨_, _, b2, _, _, _⟩ := three_cells hX1
  clear hX1
  by_cases hlt : j < m
  ·obtain ⟨b1, o1, z, rfl, hx, hc0, hc1, hc2, hc3⟩ := mvs_at (H2.out.same HB9.out) hlt
   cases hk : hitM s b k z with
   | true =>
    have HE := Lib.hid (firstAt_hit hx HN.out hk)
    obtain ⟨e1, e2, e3⟩ := hitM_iff.1 hk
    clear hx hk
    rw [e1] at hc0
    rw [e2] at hc1
    rw [e3] at hc2
    clear e1 e2 e3
    go_wp2_with fail
    go_ret
    exact ⟨by unfold moveOf; rw [HE.out]; try rfl, HB.out.trans ((HB9.out.mono HB.out.size).alloc (by have := HB9.out.size; omega) _)⟩
   | false =>
    have HS : Hid ((x.moves.take (j + 1)).any (hitM s b k) = false) := Lib.hid (by
     rw [List.take_add_one, hx, List.any_append, HN.out]
     simp [hk])
    clear hx
    by_cases h1 : z.frm = s
    ·by_cases h2 : z.send = b
     ·have h3 : (z.msg == k) = false := by
       rw [hitM, h1, h2] at hk
       simpa using hk
      rw [h1] at hc0
      rw [h2] at hc1
      clear hk h1 h2
      go_wp2_with fail
      go_roundw
      case rel => exact ⟨j + 1, by omega, by go_num, HS.out, HB9.out.alloc HB9.out.size _⟩
      case measure => simp [intOf]; omega
     ·have h3 : (z.send == b) = false := by simpa using h2
      rw [h1] at hc0
      clear hk h1 h2
      go_wp2_with fail
      go_roundw
      case rel => exact ⟨j + 1, by omega, by go_num, HS.out, HB9.out.alloc HB9.out.size _⟩
      case measure => simp [intOf]; omega
    ·have h3 : (z.frm == s) = false := by simpa using h1
     clear hk h1
     go_wp2_with fail
     go_roundw
     case rel => exact ⟨j + 1, by omega, by go_num, HS.out, HB9.out.alloc HB9.out.size _⟩
     case measure => simp [intOf]; omega
  ·obtain rfl : j = m := by omega
   have h1 := HN.out
   rw [List.take_of_length_le (by omega)] at h1
   have HE := Lib.hid (firstAt_none h1)
   clear h1
   go_wp2_with fail
   go_ret
   exact ⟨by unfold moveOf; rw [HE.out]; try rfl, HB.out.trans (HB9.out.mono HB.out.size)⟩
end Go.Proofs.YtckmgbobkffabaaGreat
