/- A message read from its bytes, by the model. Extensions: when they are valid, how they are written, and what is read of a list of integers. Where each number stands first: a map that the call fills from a list, from its back. The table of functions that write, read and measure a field's value: what is handed out for a kind. -/
import Derived.Test.YtcpnchjgklemgaaG8
import Derived.Test.YtcpnchjgklemgaaG4
import Derived.RangeFuncNested
import Derived.RangeFuncBound
import Derived.RangeFuncCalls
import Derived.RangeFuncLeaves
import Derived.RangeFuncBox
import Derived.Shelf.Abstract
import Derived.Shelf.RegionOpen
import Derived.WalkKit
import Derived.OwnWalkIn
import Derived.TacticsInMore
import Derived.LoopNIn
import Derived.LoopIn
import Derived.Maps.AppendAt
import Derived.Maps.OwnIn
import Derived.Maps.OwnSet
import Derived.Test.YtcpnchjgklemgaaG2
import Derived.Laws.EntriesVeiled
import Derived.Handy
namespace Go.Proofs.Ytcpnchjgklemgaa
open Go.ChangeShapes Go.WideShapes Go.ChangeAt Go.RowKit
set_option linter.unusedVariables false

/-- What a function leaves that reads a field's value at place k. -/
def RdTold (tI : TypeId) (x : Fd) (y : List Int) (k : Nat) (w : World) (e : Ending) (w' : World) : Prop :=
  match rdF x y k with
  | none => e = .returned (.tuple #[.agg #[.int .i64 0, .slice none 0 0], .int .i64 (-1)]) ∧ Below w.heap.size w w'
  | some (v, k') => ∃ p q g, e = .returned (.tuple #[.agg #[.int .i64 v.num, .slice p q g], .int .i64 k']) ∧ Own .i64 tI w' w.heap.size p q g v.items ∧ Below w.heap.size w w'
theorem rdF_end {x : Fd} {y : List Int} {k : Nat} (h : y.length ≤ k) : rdF x y k = none := by unfold rdF; rw [List.getElem?_eq_none h]
theorem rdF_num {x : Fd} {y : List Int} {k : Nat} {z : Int} (hz : y[k]? = some z) (hk : x.kind = 1) : rdF x y k = if fitsField x z [] = true then some (⟨z, []⟩, k + 1) else none := by unfold rdF; rw [hz]; dsimp only; rw [if_pos hk]
theorem rdF_out {x : Fd} {y : List Int} {k : Nat} {z : Int} (hz : y[k]? = some z) (hk : x.kind ≠ 1) (h : ¬ (0 ≤ z ∧ z ≤ (y.length : Int) - k - 1)) : rdF x y k = none := by unfold rdF; rw [hz]; dsimp only; rw [if_neg hk, if_neg h]
theorem rdF_row {x : Fd} {y : List Int} {k q : Nat} (hz : y[k]? = some (q : Int)) (hk : x.kind ≠ 1) (h : k + 1 + q ≤ y.length) : rdF x y k = if fitsField x 0 ((y.drop (k + 1)).take q) = true then some (⟨0, (y.drop (k + 1)).take q⟩, k + 1 + q) else none := by
  unfold rdF
  rw [hz]
  dsimp only
  rw [if_neg hk, if_pos ⟨by omega, by omega⟩, Int.toNat_natCast]

/-- Three blocks are made, one behind the other. -/
theorem three (w : World) (A B C : Array Value) (t1 t2 t3 : TypeId) :
    w.heap.size + 3 = (((w.alloc (.cells A t1)).alloc (.cells B t2)).alloc (.cells C t3)).heap.size ∧
    (((w.alloc (.cells A t1)).alloc (.cells B t2)).alloc (.cells C t3)).heap[w.heap.size]? = some (.cells A t1 (0, 0)) ∧
    (((w.alloc (.cells A t1)).alloc (.cells B t2)).alloc (.cells C t3)).heap[w.heap.size + 1]? = some (.cells B t2 (0, 0)) ∧
    (((w.alloc (.cells A t1)).alloc (.cells B t2)).alloc (.cells C t3)).heap[w.heap.size + 1 + 1]? = some (.cells C t3 (0, 0)) ∧
    Below w.heap.size w (((w.alloc (.cells A t1)).alloc (.cells B t2)).alloc (.cells C t3)) := by
  refine ⟨by simp, ?_, ?_, ?_, (((Below.refl _ w).alloc (Nat.le_refl _) _).alloc (by simp) _).alloc (by simp; omega) _⟩
  · rw [Below.heap_alloc _ _ _ (by simp; omega), Below.heap_alloc _ _ _ (by simp)]
    exact heap_alloc_new w _
  · rw [Below.heap_alloc _ _ _ (by simp)]
    have := heap_alloc_new (w.alloc (.cells A t1)) (.cells B t2)
    simpa using this
  · have := heap_alloc_new ((w.alloc (.cells A t1)).alloc (.cells B t2)) (.cells C t3)
    simpa using this
theorem two_cells {w : World} {g : Nat} {t : TypeId} {a b : Value} (h : w.heap[g]? = some (.cells #[a, b] t (0, 0))) : w.cell? ⟨g, 0, none⟩ = some a ∧ w.cell? ⟨g, 1, none⟩ = some b ∧ w.frozen? ⟨g, 0, none⟩ = false ∧ w.frozen? ⟨g, 1, none⟩ = false :=
  ⟨(block_cell h 0).trans rfl, (block_cell h 1).trans rfl, block_frozen h 0, block_frozen h 1⟩
theorem two_put {w : World} {g : Nat} {t : TypeId} {a b : Value} (h : w.heap[g]? = some (.cells #[a, b] t (0, 0))) (c d : Value) :
    (w.setCell ⟨g, 0, none⟩ c).cell? ⟨g, 0, none⟩ = some c ∧ ((w.setCell ⟨g, 0, none⟩ c).setCell ⟨g, 1, none⟩ d).cell? ⟨g, 1, none⟩ = some d ∧ ((w.setCell ⟨g, 0, none⟩ c).setCell ⟨g, 1, none⟩ d).heap[g]? = some (.cells #[c, d] t (0, 0)) := by
  have h1 := heap_setCell_same w g 0 _ _ c h
  have h2 := heap_setCell_same _ g 1 _ _ d h1
  exact ⟨(block_cell h1 0).trans rfl, (block_cell h2 1).trans rfl, h2⟩

end Go.Proofs.Ytcpnchjgklemgaa
namespace Go.Proofs.Ytcpnchjgklemgaa
open Go.ChangeShapes Go.WideShapes Go.ChangeAt Go.RowKit
set_option linter.unusedVariables false

def tagsX (l : List Vl) : List Int := l.map Vl.num
def okX (x : Vl) : Bool := decide (0 ≤ x.num ∧ x.num ≤ 255) && fitIts x.items 4 255
def areX (l : List Vl) : Bool := decide (l.length ≤ 6) && l.all okX && decide (tagsX l).Nodup
def codeX (x : Vl) : List Int := x.num :: (x.items.length : Int) :: x.items
def codesX (l : List Vl) : List Int := l.flatMap codeX
def encX (l : List Vl) : List Int := (l.length : Int) :: codesX l
theorem tagsX_len (l : List Vl) : (tagsX l).length = l.length := by simp [tagsX]
theorem areX_parts {l : List Vl} : areX l = true ↔ l.length ≤ 6 ∧ (∀ x ∈ l, okX x = true) ∧ (tagsX l).Nodup := by
  unfold areX
  simp [Bool.and_eq_true, List.all_eq_true]
  exact ⟨fun h => ⟨h.1.1, h.1.2, h.2⟩, fun h => ⟨⟨h.1, h.2.1⟩, h.2.2⟩⟩
theorem codesX_app (l m : List Vl) : codesX (l ++ m) = codesX l ++ codesX m := by simp [codesX]
theorem codesX_cons (x : Vl) (l : List Vl) : codesX (x :: l) = codeX x ++ codesX l := by simp [codesX]
theorem codesX_one (x : Vl) : codesX [x] = codeX x := by simp [codesX]
theorem codeX_len (x : Vl) : (codeX x).length = x.items.length + 2 := by simp [codeX]
theorem codesX_len (l : List Vl) : (codesX l).length = 2 * l.length + itemsOf l := by
  induction l with
  | nil => rfl
  | cons x t ih =>
    rw [codesX_cons, List.length_append, ih, codeX_len]
    simp only [itemsOf, List.length_cons, List.map_cons, List.sum_cons]
    omega
theorem codesX_take {l : List Vl} {j : Nat} {x : Vl} (h : l[j]? = some x) : codesX (l.take (j + 1)) = codesX (l.take j) ++ codeX x := by
  rw [List.take_add_one, h, Option.toList_some, codesX_app, codesX_one]
theorem okX_few {x : Vl} (h : okX x = true) : x.items.length ≤ 4 := by
  unfold okX fitIts at h
  simp only [Bool.and_eq_true, decide_eq_true_eq] at h
  omega
theorem okX_tag {x : Vl} (h : okX x = true) : 0 ≤ x.num ∧ x.num ≤ 255 := by
  unfold okX at h
  simp only [Bool.and_eq_true, decide_eq_true_eq] at h
  exact h.1
theorem items_few : ∀ {l : List Vl}, (∀ x ∈ l, okX x = true) → itemsOf l ≤ 4 * l.length
  | [], _ => by simp [itemsOf]
  | x :: t, h => by
    have h1 := okX_few (h x (by simp))
    have h2 := items_few (l := t) (fun y hy => h y (by simp [hy]))
    simp only [itemsOf, List.map_cons, List.sum_cons, List.length_cons] at *
    omega
theorem areX_few {l : List Vl} (h : areX l = true) : l.length ≤ 6 ∧ itemsOf l ≤ 24 := by
  have h1 := areX_parts.1 h
  have h2 := items_few h1.2.1
  omega
theorem encX_few {l : List Vl} (h : areX l = true) : (encX l).length ≤ 37 := by
  have h1 := areX_few h
  unfold encX
  rw [List.length_cons, codesX_len]
  omega
/-- The three fields whose values are the parts. -/
def fdN : Fd := ⟨1, 6, -1, 0⟩
def fdT : Fd := ⟨1, 255, -1, 0⟩
def fdB : Fd := ⟨2, 4, -1, 0⟩
theorem fitsT (k : Int) : fitsField fdT k [] = decide (0 ≤ k ∧ k ≤ 255) := by show (decide (0 ≤ k ∧ k ≤ 255) && decide (([] : List Int).length = 0)) = _; rw [show decide (([] : List Int).length = 0) = true from rfl, Bool.and_true]
theorem fitsN (k : Int) : fitsField fdN k [] = decide (0 ≤ k ∧ k ≤ 6) := by show (decide (0 ≤ k ∧ k ≤ 6) && decide (([] : List Int).length = 0)) = _; rw [show decide (([] : List Int).length = 0) = true from rfl, Bool.and_true]
theorem fitsB (y : List Int) : fitsField fdB 0 y = fitIts y 4 255 := by simp [fitsField, fdB]
/-- One extension, read from place k on. -/
def rdX (b : List Int) (k : Nat) : Option (Vl × Nat) :=
  match rdF fdT b k with
  | none => none
  | some (t, k1) => match rdF fdB b k1 with
    | none => none
    | some (y, k2) => some (⟨t.num, y.items⟩, k2)
/-- The first j extensions, read from place 1 on. -/
def rdXs (b : List Int) : Nat → Option (List Vl × Nat)
  | 0 => some ([], 1)
  | j + 1 => match rdXs b j with
    | none => none
    | some (l, k) => (rdX b k).map fun p => (l ++ [p.1], p.2)
def rdAll (b : List Int) : Option (List Vl × Nat) :=
  match rdF fdN b 0 with
  | none => none
  | some (c, _) => rdXs b c.num.toNat
def decX (b : List Int) : Option (List Vl) :=
  match rdAll b with
  | none => none
  | some (l, k) => if k = b.length ∧ areX l = true then some l else none
theorem rdF_kind1 {x : Fd} {b : List Int} {k k' : Nat} {t : Vl} (hk : x.kind = 1) (h : rdF x b k = some (t, k')) : t.items = [] ∧ k' = k + 1 := by
  unfold rdF at h
  split at h
  · cases h
  · rename_i z hz
    rw [if_pos hk] at h
    split at h
    · cases h; exact ⟨rfl, rfl⟩
    · cases h
theorem rdF_kind2 {x : Fd} {b : List Int} {k k' : Nat} {t : Vl} (hk : x.kind ≠ 1) (h : rdF x b k = some (t, k')) : t.num = 0 := by
  unfold rdF at h
  split at h
  · cases h
  · rename_i z hz
    rw [if_neg hk] at h
    split at h
    · split at h
      · cases h; rfl
      · cases h
    · cases h
theorem rdX_code {x : Vl} (h : okX x = true) (p r : List Int) : rdX (p ++ codeX x ++ r) p.length = some (x, (p ++ codeX x).length) := by
  unfold okX at h
  rw [Bool.and_eq_true] at h
  obtain ⟨t, y⟩ := x
  dsimp only at h
  have h1 := rdF_code (x := fdT) (y := ⟨t, []⟩) (by rw [fitsT]; exact h.1) p ((y.length : Int) :: y ++ r)
  have h2 := rdF_code (x := fdB) (y := ⟨0, y⟩) (by rw [fitsB]; exact h.2) (p ++ [t]) r
  have c1 : codeV fdT ⟨t, []⟩ = [t] := rfl
  have c2 : codeV fdB ⟨0, y⟩ = (y.length : Int) :: y := rfl
  rw [c1] at h1
  rw [c2] at h2
  have e : p ++ codeX ⟨t, y⟩ ++ r = p ++ [t] ++ ((y.length : Int) :: y ++ r) := by simp [codeX]
  have e2 : p ++ [t] ++ ((y.length : Int) :: y) ++ r = p ++ [t] ++ ((y.length : Int) :: y ++ r) := by simp
  rw [e2] at h2
  unfold rdX
  rw [e, h1]
  dsimp only
  rw [h2]
  simp [codeX]
theorem rdX_form {b : List Int} {k k' : Nat} {x : Vl} (h : rdX b k = some (x, k')) : k ≤ k' ∧ k' ≤ b.length ∧ b.take k' = b.take k ++ codeX x ∧ okX x = true := by
  unfold rdX at h
  split at h
  · cases h
  · rename_i t k1 h1
    split at h
    · cases h
    · rename_i y k2 h2
      cases h
      have f1 := rdF_form h1
      have f2 := rdF_form h2
      have g1 := rdF_kind1 (x := fdT) rfl h1
      have g2 := rdF_kind2 (x := fdB) (by decide) h2
      obtain ⟨tn, ti⟩ := t
      obtain ⟨yn, yi⟩ := y
      dsimp only at g1 g2 f1 f2 ⊢
      obtain ⟨rfl, _⟩ := g1
      subst g2
      refine ⟨by omega, f2.2.1, ?_, ?_⟩
      · rw [f2.2.2.1, f1.2.2.1]
        simp [codeV, fdT, fdB, codeX]
      · unfold okX
        rw [fitsT] at f1
        rw [fitsB] at f2
        rw [f1.2.2.2, f2.2.2.2]
        rfl
theorem rdXs_code {l : List Vl} (h : ∀ x ∈ l, okX x = true) : ∀ j, j ≤ l.length → rdXs (encX l) j = some (l.take j, 1 + (codesX (l.take j)).length)
  | 0, _ => by simp [rdXs, codesX]
  | j + 1, hj => by
    obtain ⟨x, hx⟩ : ∃ x, l[j]? = some x := ⟨_, List.getElem?_eq_getElem (by omega)⟩
    have e : encX l = ((l.length : Int) :: codesX (l.take j)) ++ codeX x ++ codesX (l.drop (j + 1)) := by
      unfold encX
      conv => lhs; rw [← List.take_append_drop (j + 1) l, codesX_app, codesX_take hx]
      simp
    have h1 := rdX_code (h x (List.mem_of_getElem? hx)) ((l.length : Int) :: codesX (l.take j)) (codesX (l.drop (j + 1)))
    rw [← e] at h1
    rw [rdXs, rdXs_code h j (by omega)]
    dsimp only
    rw [show 1 + (codesX (l.take j)).length = ((l.length : Int) :: codesX (l.take j)).length by simp; omega, h1, codesX_take hx, List.take_add_one, hx]
    simp
    omega
theorem rdXs_form {b : List Int} {c : Int} (hb : b.take 1 = [c]) : ∀ j l k, rdXs b j = some (l, k) → l.length = j ∧ k ≤ b.length ∧ b.take k = c :: codesX l ∧ ∀ x ∈ l, okX x = true
  | 0, l, k, h => by
    have : l = [] ∧ k = 1 := by simpa [rdXs, eq_comm] using h
    obtain ⟨rfl, rfl⟩ := this
    refine ⟨rfl, ?_, by rw [hb]; rfl, fun x hx => by cases hx⟩
    cases b with
    | nil => simp at hb
    | cons => simp
  | j + 1, l, k, h => by
    rw [rdXs] at h
    split at h
    · cases h
    · rename_i l0 k0 h0
      obtain ⟨q1, q2, q3, q4⟩ := rdXs_form hb j l0 k0 h0
      cases hx : rdX b k0 with
      | none => rw [hx] at h; cases h
      | some p =>
        rw [hx] at h
        obtain ⟨x, k1⟩ := p
        cases h
        obtain ⟨r1, r2, r3, r4⟩ := rdX_form hx
        refine ⟨by simp [q1], r2, by rw [r3, q3, codesX_app, codesX_one]; rfl, fun y hy => ?_⟩
        rcases List.mem_append.1 hy with s | s
        · exact q4 y s
        · have : y = x := by simpa using s
          rw [this]; exact r4
theorem rdAll_enc {l : List Vl} (h : areX l = true) : rdAll (encX l) = some (l, (encX l).length) := by
  obtain ⟨h1, h2, h3⟩ := areX_parts.1 h
  have h4 := rdF_num (x := fdN) (y := encX l) (k := 0) (z := (l.length : Int)) rfl rfl
  rw [fitsN, if_pos (by simp; omega)] at h4
  unfold rdAll
  rw [h4]
  dsimp only
  rw [Int.toNat_natCast, rdXs_code h2 l.length (Nat.le_refl _), List.take_length]
  simp [encX]
  omega
theorem rdAll_form {b : List Int} {l : List Vl} {k : Nat} (h : rdAll b = some (l, k)) : l.length ≤ 6 ∧ k ≤ b.length ∧ b.take k = encX l ∧ ∀ x ∈ l, okX x = true := by
  unfold rdAll at h
  split at h
  · cases h
  · rename_i c k0 h0
    have f := rdF_form h0
    have g := rdF_kind1 (x := fdN) rfl h0
    obtain ⟨cn, ci⟩ := c
    dsimp only at f g h
    obtain ⟨rfl, rfl⟩ := g
    rw [fitsN] at f
    have hc : 0 ≤ cn ∧ cn ≤ 6 := by simpa using f.2.2.2
    obtain ⟨q1, q2, q3, q4⟩ := rdXs_form (c := cn) (by rw [show (1 : Nat) = 0 + 1 from rfl, f.2.2.1]; rfl) _ _ _ h
    refine ⟨by omega, q2, ?_, q4⟩
    rw [q3]
    unfold encX
    rw [q1, Int.toNat_of_nonneg hc.1]
/-- What is read is just what was written. -/
theorem decX_iff {b : List Int} {l : List Vl} : decX b = some l ↔ areX l = true ∧ b = encX l := by
  constructor
  · intro h
    unfold decX at h
    split at h
    · cases h
    · rename_i l0 k h0
      split at h
      · rename_i hk
        cases h
        obtain ⟨_, _, h3, _⟩ := rdAll_form h0
        rw [hk.1, List.take_length] at h3
        exact ⟨hk.2, h3⟩
      · cases h
  · rintro ⟨h1, rfl⟩
    unfold decX
    rw [rdAll_enc h1]
    dsimp only
    rw [if_pos ⟨rfl, h1⟩]
theorem decX_few {b : List Int} {l : List Vl} (h : decX b = some l) : l.length ≤ 6 ∧ itemsOf l ≤ 24 := areX_few (decX_iff.1 h).1
/-- The place of a tag. -/
def extOf (l : List Vl) (t : Int) : Int := if t ∈ tagsX l then ((tagsX l).idxOf t : Int) else -1
def knownOf (l : List Vl) (ts : List Int) : List Vl := l.filter fun x => decide (x.num ∈ ts)
theorem extOf_no {l : List Vl} {t : Int} (h : ¬ t ∈ tagsX l) : extOf l t = -1 := if_neg h
theorem extOf_yes {l : List Vl} {t : Int} (h : t ∈ tagsX l) : extOf l t = ((tagsX l).idxOf t : Int) := if_pos h
theorem tags_at {l : List Vl} {j : Nat} {x : Vl} (h : l[j]? = some x) : (tagsX l)[j]? = some x.num := by simp [tagsX, h]
theorem tags_take {l : List Vl} {j : Nat} {x : Vl} (h : l[j]? = some x) : tagsX (l.take (j + 1)) = tagsX (l.take j) ++ [x.num] := by
  rw [List.take_add_one, h]
  simp [tagsX]
theorem tags_mem {l : List Vl} {j : Nat} {x : Vl} (h : l[j]? = some x) : x.num ∈ tagsX l := List.mem_of_getElem? (tags_at h)
theorem idx_le : ∀ {zs : List Int} {i : Nat} {z : Int}, zs[i]? = some z → zs.idxOf z ≤ i
  | [], i, z, h => by simp at h
  | x :: t, 0, z, h => by
    have : x = z := by simpa using h
    subst this
    simp
  | x :: t, i + 1, z, h => by
    have := idx_le (zs := t) (i := i) (z := z) (by simpa using h)
    rw [List.idxOf_cons]
    cases x == z <;> simp
    exact this
/-- The tags differ just if each stands first at its own place. -/
theorem nodup_first {zs : List Int} : zs.Nodup ↔ ∀ j z, zs[j]? = some z → ¬ zs.idxOf z < j := by
  constructor
  · intro h j z hz hlt
    have hj : j < zs.length := (List.getElem?_eq_some_iff.1 hz).1
    have hi : zs.idxOf z < zs.length := by omega
    have e1 := List.getElem_idxOf hi
    obtain ⟨_, e2⟩ := List.getElem?_eq_some_iff.1 hz
    exact List.pairwise_iff_getElem.1 h _ _ hi hj hlt (by rw [e1, e2])
  · intro h
    rw [List.Nodup, List.pairwise_iff_getElem]
    intro i j hi hj hij e
    refine h j zs[j] (List.getElem?_eq_getElem hj) ?_
    have : zs.idxOf zs[j] ≤ i := idx_le (by rw [List.getElem?_eq_getElem hi, e])
    omega
end Go.Proofs.Ytcpnchjgklemgaa
namespace Go.Proofs.Ytcpnchjgklemgaa
open Go.ChangeShapes Go.WideShapes Go.ChangeAt Go.RowKit Go.Shelf
set_option linter.unusedVariables false
attribute [local go_sem] Oper.semAt_some

/-- An integer of 64 bits. -/
abbrev W64 := {x : Int // (Lit.int .i64 x).wf = true}
def mk64 (z : Int) : W64 := if h : (Lit.int .i64 z).wf = true then ⟨z, h⟩ else ⟨0, by decide⟩
theorem mk64_val {z : Int} (h : (Lit.int .i64 z).wf = true) : (mk64 z).1 = z := by unfold mk64; rw [dif_pos h]
/-- The places and numbers of a list, from its back: the first k of them. -/
def backs (zs : List Int) (k : Nat) : List (W64 × W64) := (List.range k).map fun (j : Nat) => (mk64 ((zs.length : Int) - 1 - (j : Int)), mk64 (zs.getD (zs.length - 1 - j) 0))
theorem backs_succ (zs : List Int) (k : Nat) : backs zs (k + 1) = backs zs k ++ [(mk64 ((zs.length : Int) - 1 - k), mk64 (zs.getD (zs.length - 1 - k) 0))] := by simp [backs, List.range_succ]
theorem backs_len (zs : List Int) (k : Nat) : (backs zs k).length = k := by simp [backs]
/-- A map that holds each number's first place. -/
def pl (i : Nat) : List Int → DataW Unit
  | [] => .map []
  | x :: t => (pl (i + 1) t).put (.int .i64 x) (.lit (.int .i64 (i : Int)))
def plP (ps : List (W64 × W64)) : DataW Unit := ps.foldl (fun D x => D.put (.int .i64 x.2.1) (.lit (.int .i64 x.1.1))) (.map [])
theorem plP_snoc (ps : List (W64 × W64)) (x : W64 × W64) : plP (ps ++ [x]) = (plP ps).put (.int .i64 x.2.1) (.lit (.int .i64 x.1.1)) := by simp [plP]
theorem plP_backs {zs : List Int} (hz : ∀ z ∈ zs, (Lit.int .i64 z).wf = true) (hn : zs.length ≤ 1048576000) : ∀ k, k ≤ zs.length → plP (backs zs k) = pl (zs.length - k) (zs.drop (zs.length - k))
  | 0, _ => by simp [backs, plP, pl]
  | k + 1, h => by
    have hj : zs.length - (k + 1) < zs.length := by omega
    rw [backs_succ, plP_snoc, plP_backs hz hn k (by omega), List.drop_eq_getElem_cons hj, pl, show zs.length - (k + 1) + 1 = zs.length - k by omega]
    have e1 : ((zs.length : Int) - 1 - k) = ((zs.length - (k + 1) : Nat) : Int) := by omega
    have e2 : zs.getD (zs.length - 1 - k) 0 = zs[zs.length - (k + 1)] := by
      rw [show zs.length - 1 - k = zs.length - (k + 1) by omega, List.getD, List.getElem?_eq_getElem hj]; rfl
    dsimp only
    rw [e1, e2, mk64_val (z := ((zs.length - (k + 1) : Nat) : Int)) (WalkArith.wf_i64 (by omega)), mk64_val (hz _ (List.getElem_mem hj))]
section
open Go.Maps
theorem pl_isMap : ∀ (i : Nat) (zs : List Int), IsMap (pl i zs)
  | _, [] => isMap_empty
  | i, x :: t => (pl_isMap (i + 1) t).put _ _
theorem pl_tidy : ∀ (i : Nat) (zs : List Int), Tidy (pl i zs)
  | _, [] => tidy_empty
  | i, x :: t => (pl_tidy (i + 1) t).put (by simp [WideAt.IsKeyLit]) _
theorem lit_ne {x k : Int} (h : ¬ x = k) : (Lit.int .i64 k) ≠ (Lit.int .i64 x) := fun e => h (by injection e with _ e2; exact e2.symm)
theorem pl_has (k : Int) : ∀ (i : Nat) (zs : List Int), Maps.has (pl i zs) (.int .i64 k) = decide (k ∈ zs)
  | _, [] => by simp [pl, Maps.has]
  | i, x :: t => by
    by_cases h : x = k
    · subst h
      rw [pl, has_put_same (pl_isMap _ _) (by simp [WideAt.IsKeyLit])]
      simp
    · rw [pl, has_put_other (lit_ne h), pl_has k (i + 1) t]
      have : ¬ k = x := fun e => h e.symm
      simp [this]
theorem pl_at (k : Int) (z : DataW Unit) : ∀ (i : Nat) (zs : List Int), k ∈ zs → (pl i zs).atKey (.int .i64 k) z = .lit (.int .i64 ((i + zs.idxOf k : Nat) : Int))
  | _, [], h => by simp at h
  | i, x :: t, h => by
    by_cases e : x = k
    · subst e
      rw [pl, atKey_put_same (pl_isMap _ _) (by simp [WideAt.IsKeyLit])]
      simp
    · have ht : k ∈ t := by
        rcases List.mem_cons.1 h with q | q
        · exact absurd q.symm e
        · exact q
      rw [pl, atKey_put_other (lit_ne e), pl_at k z (i + 1) t ht, List.idxOf_cons, beq_false_of_ne e, cond_false]
      congr 3
      omega
theorem pl_size_le : ∀ (i : Nat) (zs : List Int), Maps.size (pl i zs) ≤ zs.length
  | _, [] => by simp [pl, Maps.size]
  | i, x :: t => by
    rw [pl, size_put (pl_tidy _ _)]
    have := pl_size_le (i + 1) t
    split <;> simp <;> omega
theorem pl_size : ∀ (i : Nat) (zs : List Int), (Maps.size (pl i zs) = zs.length ↔ zs.Nodup)
  | _, [] => by simp [pl, Maps.size]
  | i, x :: t => by
    have h1 := pl_size (i + 1) t
    have h2 := pl_size_le (i + 1) t
    rw [pl, size_put (pl_tidy _ _), pl_has, List.nodup_cons]
    by_cases h : x ∈ t
    · simp [h]
      omega
    · simp [h]
      exact h1
end
theorem Nums.under {k : IntKind} {w w' : World} {a : Option Addr} {n n₀ : Nat} {l : List Int} (h : Nums k w a n l) (hb : Below n₀ w w') (ha : ∀ ad, a = some ad → ad.block < n₀) : Nums k w' a n l :=
  ⟨h.len, h.fits, fun j hj => by
    obtain ⟨ad, e, hx⟩ := h.cell j hj
    exact ⟨ad, e, by rw [hb.cell (by rw [addr_block]; exact ha ad e)]; exact hx⟩⟩
theorem Nums.in_ {k : IntKind} {w : World} {a : Option Addr} {n : Nat} {l : List Int} (h : Nums k w a n l) (hn : 0 < n) : ∀ ad, a = some ad → ad.block < w.heap.size := fun ad e => by
  obtain ⟨ad', e', hx⟩ := h.cell 0 hn
  rw [e] at e'
  cases e'
  have := cell_in hx
  rwa [addr_block] at this
/-- What lay ahead of n0, and block g, has not changed. -/
def KeptToo (n₀ g : Nat) (A B : World) : Prop := Below n₀ A B ∧ B.heap[g]? = A.heap[g]?

set_option maxRecDepth 100000 in
set_option maxHeartbeats 2000000 in
theorem back1_in (m l g n₀ : Nat) (a : Option Addr) (n c : Nat) (zs : List Int) (hm : 1 ≤ m) (hn : n ≤ 1048576000) (hz : ∀ z ∈ zs, (Lit.int .i64 z).wf = true) (ha : 0 < n → ∀ ad, a = some ad → ad.block < n₀) (J Jx : List (W64 × W64) → World → Prop)
    (hY : ∀ pre x W, J pre W → pre.length < n → YieldAt Fence.wide (m - 1) Try.prog l #[.int .i64 x.1.1, .int .i64 x.2.1] W fun e W' =>
      (e = .returned (.bool true) ∧ J (pre ++ [x]) W' ∧ KeptToo n₀ g W W') ∨ (e = .returned (.bool false) ∧ Jx (pre ++ [x]) W'))
    (W : World) (hG : W.heap[g]? = some (.cells #[.slice a n c] 24 (0, 0))) (hN : Nums .i64 W a n zs) (h0 : J [] W) :
    CallsIn Fence.wide m Try.prog 131 #[.func (.yield l) #[] #[], .pointer (some ⟨g, 0, none⟩)] W fun e W' => (∃ v, e = .returned v) ∧
      ((∃ ys, ys = backs zs n ∧ J ys W') ∨ (∃ pre, True ∧ Jx pre W')) := by
  have hl := hN.len
  have HN := Lib.hid hN
  have HZ := Lib.hid hz
  have HA := Lib.hid ha
  have hG0 := (block_cell hG 0).trans rfl
  have HG := Lib.hid hG
  clear hN hz ha hG
  refine callsIn_of_wp Try.func131 rfl trivial ?_ rfl
  simp only [Try.ntmps131, List.size_toArray, List.length_cons, List.length_nil, Nat.reduceAdd, Nat.reduceSub, Array.replicate_succ, Array.replicate_zero, List.push_toArray, List.append_toArray, List.nil_append, List.cons_append]
  gi_wp2
  gi_loopw [3] (fun i wr => ∃ k : Nat, k ≤ n ∧ i = .int .i64 ((n : Int) - 1 - k) ∧ J (backs zs k) wr ∧ KeptToo n₀ g W wr) (fun i _ => (intOf i + 1).toNat)
  case atStart => exact ⟨0, Nat.zero_le _, by simp, h0, Below.refl _ _, rfl⟩
  case round =>
    obtain ⟨k, hk, rfl, hJ, hK⟩ := hrel
    have HJ := Lib.hid hJ
    have HK := Lib.hid hK
    clear hJ hK
    by_cases hlt : k < n
    · have hg1 := (block_cell (HK.out.2.trans HG.out) 0).trans rfl
      obtain ⟨j, hj⟩ : ∃ j : Nat, j = n - 1 - k := ⟨_, rfl⟩
      have ej : (n : Int) - 1 - k = (j : Int) := by omega
      rw [ej]
      obtain ⟨ad, z, e, hx, hc⟩ := (HN.out.under HK.out.1 (HA.out (by omega))).at_ (j := j) (by omega)
      subst e
      have hzw := HZ.out z (List.mem_of_getElem? hx)
      have HS : Hid (backs zs (k + 1) = backs zs k ++ [(mk64 (j : Int), mk64 z)]) := Lib.hid (by
        rw [backs_succ, hl, ej, ← hj, List.getD, hx]; rfl)
      have e1 : (mk64 (j : Int)).1 = (j : Int) := mk64_val (WalkArith.wf_i64 (by omega))
      have e2 : (mk64 z).1 = z := mk64_val hzw
      obtain ⟨fn, tmps, assign, body, hy, hR⟩ := hY (backs zs k) (mk64 (j : Int), mk64 z) wr HJ.out (by rw [backs_len]; exact hlt)
      dsimp only at hy
      rw [e1, e2] at hy
      have HR := Lib.hid hR
      have HE := Lib.hid (show j + k + 1 = n by omega)
      have hjn : j < n := by have := HE.out; omega
      clear hx hzw e1 e2 hR hj ej
      gi_wp2
      refine HR.out.mono ?_
      rintro e w3 (⟨rfl, hJ3, hk3⟩ | ⟨rfl, hJx3⟩)
      · gi_wp2
        go_roundw
        case rel => exact ⟨k + 1, by have := HE.out; omega, by have := HE.out; go_num, by rw [HS.out]; exact hJ3, HK.out.1.trans hk3.1, hk3.2.trans HK.out.2⟩
        case measure => have := HE.out; simp [intOf]
      · gi_wp2
        refine bodyPost_ret (results_none rfl _ _ _) rfl ?_
        exact ⟨⟨_, rfl⟩, .inr ⟨_, trivial, hJx3⟩⟩
    · obtain rfl : k = n := by omega
      gi_wp2
      go_end0
      exact ⟨⟨_, rfl⟩, .inl ⟨_, rfl, HJ.out⟩⟩
theorem back_stops (m g n₀ : Nat) (a : Option Addr) (n c : Nat) (zs : List Int) (hm : 1 ≤ m) (hn : n ≤ 1048576000) (hz : ∀ z ∈ zs, (Lit.int .i64 z).wf = true) (ha : 0 < n → ∀ ad, a = some ad → ad.block < n₀) (w : World) (hG : w.heap[g]? = some (.cells #[.slice a n c] 24 (0, 0))) (hN : Nums .i64 w a n zs) :
    SeqStopsK Fence.wide m Try.prog 131 #[.pointer (some ⟨g, 0, none⟩)] (fun x : W64 × W64 => #[Value.int .i64 x.1.1, Value.int .i64 x.2.1]) (KeptToo n₀ g) (fun ys => ys = backs zs n) (fun _ => True) n w := fun l J Jx W hW hJ _ hY h0 =>
  back1_in m l g n₀ a n c zs hm hn hz ha J Jx hY W ((hW.block _ (Array.getElem?_eq_some_iff.1 hG).1).trans hG) (hN.same hW) h0
theorem backward_in (m : Nat) (a : Option Addr) (n c : Nat) (w : World) :
    CallsIn Fence.wide m Try.prog 125 #[.slice a n c] w fun e w' => e = .returned (.func (.func 131) #[] #[.pointer (some ⟨w.heap.size, 0, none⟩)]) ∧ w' = w.alloc (.cells #[.slice a n c] 24) := by
  refine callsIn_of_wp Try.func125 rfl trivial ?_ rfl
  simp only [Try.ntmps125, List.size_toArray, List.length_cons, List.length_nil, Nat.reduceAdd, Nat.reduceSub, Array.replicate_succ, Array.replicate_zero, List.push_toArray, List.append_toArray, List.nil_append, List.cons_append]
  gi_wp2
  go_ret
  exact ⟨rfl, rfl⟩
theorem map_zero (w : World) : (zeroValue 3).run Try.prog w = .ok (.int .i64 0) w := by kernel_rfl
theorem int_keys : Maps.Keyed Try.prog 3 := Maps.int_keyed Try.underlying3
theorem kept_t {n₀ g : Nat} {A B C : World} (h : KeptToo n₀ g A B) (k : KeptToo n₀ g B C) : KeptToo n₀ g A C := ⟨h.1.trans k.1, k.2.trans h.2⟩

set_option maxRecDepth 100000 in
set_option maxHeartbeats 2000000 in
theorem places_in (a : Option Addr) (n c : Nat) (zs : List Int) (w : World) (hN : Nums .i64 w a n zs) (hz : ∀ z ∈ zs, (Lit.int .i64 z).wf = true) (hn : n ≤ 1048576000) :
    CallsIn Fence.wide 4 Try.prog 100 #[.slice a n c] w fun e W' => e = .returned (.map (some w.heap.size)) ∧ W'.ownsMap Try.prog 3 (plainElem (H := Unit) Try.prog 3) w.heap.size n (pl 0 zs) ∧ Below w.heap.size w W' := by
  have h1 : 1 ≤ 4 := by omega
  have hmm := @run_makeMap Try.prog
  have hl := hN.len
  have ha : 0 < n → ∀ ad, a = some ad → ad.block < w.heap.size := fun h => hN.in_ h
  refine callsIn_of_wp_marks Try.func100 rfl trivial ?_ rfl
  simp only [Try.ntmps100, List.size_toArray, List.length_cons, List.length_nil, Nat.reduceAdd, Nat.reduceSub, Array.replicate_succ, Array.replicate_zero, List.push_toArray, List.append_toArray, List.nil_append, List.cons_append]
  gi_wp2_with (refine ⟨trivial, ?_⟩; gi_at_call 125; refine (backward_in 3 _ _ _ _).mono ?_; rintro e w' ⟨rfl, rfl⟩)
  have hm0 := World.ownsMap_made w Try.prog 3 (plainElem (H := Unit) Try.prog 3)
  have bS := (Boxed.new (w.alloc (.map #[] 0)) 112 (.map (some w.heap.size))).alloc (.cells #[.slice a n c] 24)
  have hG := World.alloc_heap_new ((w.alloc (.map #[] 0)).alloc (.cells #[.map (some w.heap.size)] 112)) (.cells #[.slice a n c] 24)
  simp only [World.size_alloc] at bS hG
  have hB0 : Below w.heap.size w (((w.alloc (.map #[] 0)).alloc (.cells #[.map (some w.heap.size)] 112)).alloc (.cells #[.slice a n c] 24)) := (((Below.refl _ w).alloc (Nat.le_refl _) _).alloc (by simp) _).alloc (by simp; omega) _
  refine wpIn_rangeFunc_ownG rfl h1 (gf := 131) (lb := #[.pointer (some ⟨w.heap.size + 1 + 1, 0, none⟩)]) rfl trivial (enters_of Try.func131 (by kernel_rfl) rfl)
    (back_stops 3 (w.heap.size + 1 + 1) w.heap.size a n c zs (by omega) hn hz ha _ hG (hN.same hB0)) (fun h k => kept_t h k) (fun W l o o' hl' ho hc hw => ⟨belowK_b (w := (((w.alloc (.map #[] 0)).alloc (.cells #[.map (some w.heap.size)] 112)).alloc (.cells #[.slice a n c] 24))) (by simp; omega) W l o o' hl' ho hc hw, World.putObj_heap_other (by simp at hl'; omega)⟩) (Below.refl _ _) (by intro x; rfl)
    (fun pre W => (W.cell? ⟨w.heap.size + 1, 0, none⟩ = some (.map (some w.heap.size)) ∧ W.cell? ⟨w.heap.size + 1 + 1, 0, none⟩ = some (.slice a n c) ∧ W.ownsMap Try.prog 3 (plainElem (H := Unit) Try.prog 3) w.heap.size pre.length (plP pre)) ∧ Below w.heap.size w W)
    (fun _ _ _ => False)
    (OwnFrom.and (fun s A B row hs hg hr => ⟨Go.cell_kept hs.1 hg (fun r e => (hr r e).2), Go.cell_kept hs.2.1 hg (fun r e => (hr r e).2), hs.2.2.kept hg (fun e => by have := (hr _ e.symm).1; simp at this; omega)⟩) (ownFrom_below (Nat.le_refl _) (by simp; omega)))
    (fun _ _ _ _ _ hs _ _ => hs)
    ⟨⟨bS.cell, (block_cell hG 0).trans rfl, (hm0.alloc _).alloc _⟩, hB0⟩
    (fun x => { tmps := #[.slice a n c, undef, .map none, .pointer (some ⟨w.heap.size + 1, 0, none⟩), .int .i64 x.1.1, .int .i64 x.2.1, .map (some w.heap.size), .slice a n c, .func (.func 131) #[] #[.pointer (some ⟨w.heap.size + 1 + 1, 0, none⟩)], .int .i64 x.1.1, .int .i64 x.2.1, undef, undef, undef, undef], defers := [] }) ?assign ?body ?done ?stop
  case assign =>
    intro l x W K hK
    gi_wp2
    exact hK
  case body =>
    rintro l pre x W ⟨⟨hc, hc2, hown⟩, hB⟩ hlt
    have hkey := Maps.keyOf_int_mk Try.underlying3 x.2.2
    gi_wp2_with (gi_at_mapUpdate; refine wpListIn_mapUpdate_own _ rfl _ _ _ 112 rfl 3 3 int_keys Try.underlying112 _ w.heap.size pre.length _ rfl hown (by unfold maxLen; omega) _ _ _ rfl rfl hkey _ [] (plainElem_int Try.underlying3 x.1.2) ?_; intro w1 hown1 hgrow1)
    obtain ⟨es, ck, hh, _⟩ := hown
    exact ⟨KeepsFrom.of_grownBy hgrow1 (fun j e => by cases e; simp; omega), ⟨(Below.refl _ W).grown hgrow1 hB.size (fun k e => by cases e; exact Nat.le_refl _), hgrow1.block _ (cell_in hc2) (by simp; omega)⟩,
      ⟨Go.cell_kept hc hgrow1 (fun r e => by cases e; exact ⟨_, hh, rfl⟩), Go.cell_kept hc2 hgrow1 (fun r e => by cases e; exact ⟨_, hh, rfl⟩), by rw [plP_snoc, List.length_append]; exact hown1⟩, hB.grown hgrow1 hB.size (fun k e => by cases e; exact Nat.le_refl _)⟩
  case done =>
    rintro D ys W hD rfl ⟨⟨hc, _, hown⟩, hB⟩ hK
    gi_wp2
    refine ⟨by simp, .inl ⟨_, _, rfl, run_takeDeferred hK, ?_⟩⟩
    have hfin := plP_backs hz (by omega) zs.length (Nat.le_refl _)
    rw [Nat.sub_self, List.drop_zero, hl] at hfin
    rw [backs_len, hfin] at hown
    exact ⟨_, results_tmp rfl _ _ _, rfl, hown.kept (grownBy_putObj' _ D _) (fun e => by cases e; simp at hD; omega), hB.trans (belowK_b (w := w) (Nat.le_refl _) W D _ _ (by simp at hD; omega) hK rfl rfl)⟩
  case stop =>
    rintro D c pre W _ _ h _
    exact h.elim
theorem placesOf_any (a : Option Addr) (n c : Nat) (zs : List Int) (w : World) (hN : Nums .i64 w a n zs) (hz : ∀ z ∈ zs, (Lit.int .i64 z).wf = true) (hn : n ≤ 1048576000) :
    Calls Try.prog 100 #[.slice a n c] w fun e w' => e = .returned (.map (some w.heap.size)) ∧ w'.ownsMap Try.prog 3 (plainElem (H := Unit) Try.prog 3) w.heap.size n (pl 0 zs) ∧ Below w.heap.size w w' := callsIn_wide.1 (places_in a n c zs w hN hz hn)
end Go.Proofs.Ytcpnchjgklemgaa
namespace Go.Proofs.Ytcpnchjgklemgaa
open Go.ChangeShapes Go.WideShapes Go.ChangeAt Go.RowKit
set_option linter.unusedVariables false

/-- The functions for the numbers, and those for the texts and the lists. -/
def numCode : Value := .agg #[.func (.func 134) #[] #[], .func (.func 135) #[] #[], .func (.func 136) #[] #[]]
def itemsCode : Value := .agg #[.func (.func 95) #[] #[], .func (.func 53) #[] #[], .func (.func 133) #[] #[]]

theorem three_same (w : World) (A B C : Obj) : Below w.heap.size w (((w.alloc A).alloc B).alloc C) :=
  (((Below.refl _ w).alloc (Nat.le_refl _) _).alloc (by simp) _).alloc (by simp; omega) _
set_option maxHeartbeats 1000000 in
set_option maxRecDepth 100000 in
theorem codeOf_num (w : World) : Calls Try.prog 132 #[.int .i64 1] w (fun e w' => e = .returned numCode ∧ Below w.heap.size w w') := by
  unfold numCode
  go_enter Try.func132, Try.ntmps132
  go_wp2_with fail
  go_returns
  exact ⟨rfl, three_same _ _ _ _⟩
set_option maxHeartbeats 1000000 in
set_option maxRecDepth 100000 in
theorem codeOf_text (w : World) : Calls Try.prog 132 #[.int .i64 2] w (fun e w' => e = .returned itemsCode ∧ Below w.heap.size w w') := by
  unfold itemsCode
  go_enter Try.func132, Try.ntmps132
  go_wp2_with fail
  go_returns
  exact ⟨rfl, three_same _ _ _ _⟩
set_option maxHeartbeats 1000000 in
set_option maxRecDepth 100000 in
theorem codeOf_list (w : World) : Calls Try.prog 132 #[.int .i64 3] w (fun e w' => e = .returned itemsCode ∧ Below w.heap.size w w') := by
  unfold itemsCode
  go_enter Try.func132, Try.ntmps132
  go_wp2_with fail
  go_returns
  exact ⟨rfl, three_same _ _ _ _⟩
theorem codeOf_more {k : Int} (hk : k = 2 ∨ k = 3) (w : World) : Calls Try.prog 132 #[.int .i64 k] w (fun e w' => e = .returned itemsCode ∧ Below w.heap.size w w') := by
  rcases hk with rfl | rfl
  · exact codeOf_text w
  · exact codeOf_list w
theorem numCode_write (w : World) : (Instr.field 155 (.agg #[.func (.func 134) #[] #[], .func (.func 135) #[] #[], .func (.func 136) #[] #[]]) 0).run Try.prog w = .ok (.func (.func 134) #[] #[]) w := by kernel_rfl
theorem numCode_read (w : World) : (Instr.field 155 (.agg #[.func (.func 134) #[] #[], .func (.func 135) #[] #[], .func (.func 136) #[] #[]]) 1).run Try.prog w = .ok (.func (.func 135) #[] #[]) w := by kernel_rfl
theorem numCode_longest (w : World) : (Instr.field 155 (.agg #[.func (.func 134) #[] #[], .func (.func 135) #[] #[], .func (.func 136) #[] #[]]) 2).run Try.prog w = .ok (.func (.func 136) #[] #[]) w := by kernel_rfl
theorem itemsCode_write (w : World) : (Instr.field 155 (.agg #[.func (.func 95) #[] #[], .func (.func 53) #[] #[], .func (.func 133) #[] #[]]) 0).run Try.prog w = .ok (.func (.func 95) #[] #[]) w := by kernel_rfl
theorem itemsCode_read (w : World) : (Instr.field 155 (.agg #[.func (.func 95) #[] #[], .func (.func 53) #[] #[], .func (.func 133) #[] #[]]) 1).run Try.prog w = .ok (.func (.func 53) #[] #[]) w := by kernel_rfl
theorem itemsCode_longest (w : World) : (Instr.field 155 (.agg #[.func (.func 95) #[] #[], .func (.func 53) #[] #[], .func (.func 133) #[] #[]]) 2).run Try.prog w = .ok (.func (.func 133) #[] #[]) w := by kernel_rfl
end Go.Proofs.Ytcpnchjgklemgaa
