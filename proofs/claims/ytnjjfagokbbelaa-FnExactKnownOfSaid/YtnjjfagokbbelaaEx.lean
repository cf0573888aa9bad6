/- Extensions: when they are valid, how they are written, and what is read of a list of integers. -/
import Derived.Test.YtnjjfagokbbelaaReadM
namespace Go.Proofs.Ytnjjfagokbbelaa
open Go.ChangeShapes Go.WideShapes Go.ChangeAt Go.RowKit
set_option linter.unusedVariables false

def tagsX (l : List Vl) : List Int := l.map Vl.num
def okX (x : Vl) : Bool := decide (0 ≤ x.num ∧ x.num ≤ 255) && fitIts x.items 4 255
def areX (l : List Vl) : Bool := decide (l.length ≤ 6) && l.all okX && decide (tagsX l).Nodup
def codeX (x : Vl) : List Int := x.num :: (x.items.length : Int) :: x.items
def codesX (l : List Vl) : List Int := l.flatMap codeX
def encX (l : List Vl) : List Int := (l.length : Int) :: codesX l
theorem tagsX_len (l : List Vl) : (tagsX l).length = l.length := by simp [tagsX]
theorem areX_parts {l : List Vl} : areX l = true ↔ l.length ≤ 6 ∧ (∀ x ∈ l, okX x = true) ∧ (tagsX l).Nodup := by
  unfold areX
  simp [Bool.and_eq_true, List.all_eq_true]
  exact ⟨fun h => ⟨h.1.1, h.1.2, h.2⟩, fun h => ⟨⟨h.1, h.2.1⟩, h.2.2⟩⟩
theorem codesX_app (l m : List Vl) : codesX (l ++ m) = codesX l ++ codesX m := by simp [codesX]
theorem codesX_cons (x : Vl) (l : List Vl) : codesX (x :: l) = codeX x ++ codesX l := by simp [codesX]
theorem codesX_one (x : Vl) : codesX [x] = codeX x := by simp [codesX]
theorem codeX_len (x : Vl) : (codeX x).length = x.items.length + 2 := by simp [codeX]
theorem codesX_len (l : List Vl) : (codesX l).length = 2 * l.length + itemsOf l := by
  induction l with
  | nil => rfl
  | cons x t ih =>
    rw [codesX_cons, List.length_append, ih, codeX_len]
    simp only [itemsOf, List.length_cons, List.map_cons, List.sum_cons]
    omega
theorem codesX_take {l : List Vl} {j : Nat} {x : Vl} (h : l[j]? = some x) : codesX (l.take (j + 1)) = codesX (l.take j) ++ codeX x := by
  rw [List.take_add_one, h, Option.toList_some, codesX_app, codesX_one]
theorem okX_few {x : Vl} (h : okX x = true) : x.items.length ≤ 4 := by
  unfold okX fitIts at h
  simp only [Bool.and_eq_true, decide_eq_true_eq] at h
  omega
theorem okX_tag {x : Vl} (h : okX x = true) : 0 ≤ x.num ∧ x.num ≤ 255 := by
  unfold okX at h
  simp only [Bool.and_eq_true, decide_eq_true_eq] at h
  exact h.1
theorem items_few : ∀ {l : List Vl}, (∀ x ∈ l, okX x = true) → itemsOf l ≤ 4 * l.length
  | [], _ => by simp [itemsOf]
  | x :: t, h => by
    have h1 := okX_few (h x (by simp))
    have h2 := items_few (l := t) (fun y hy => h y (by simp [hy]))
    simp only [itemsOf, List.map_cons, List.sum_cons, List.length_cons] at *
    omega
theorem areX_few {l : List Vl} (h : areX l = true) : l.length ≤ 6 ∧ itemsOf l ≤ 24 := by
  have h1 := areX_parts.1 h
  have h2 := items_few h1.2.1
  omega
theorem encX_few {l : List Vl} (h : areX l = true) : (encX l).length ≤ 37 := by
  have h1 := areX_few h
  unfold encX
  rw [List.length_cons, codesX_len]
  omega
/-- The three fields whose values are the parts. -/
def fdN : Fd := ⟨1, 6, -1, 0⟩
def fdT : Fd := ⟨1, 255, -1, 0⟩
def fdB : Fd := ⟨2, 4, -1, 0⟩
theorem fitsT (k : Int) : fitsField fdT k [] = decide (0 ≤ k ∧ k ≤ 255) := by show (decide (0 ≤ k ∧ k ≤ 255) && decide (([] : List Int).length = 0)) = _; rw [show decide (([] : List Int).length = 0) = true from rfl, Bool.and_true]
theorem fitsN (k : Int) : fitsField fdN k [] = decide (0 ≤ k ∧ k ≤ 6) := by show (decide (0 ≤ k ∧ k ≤ 6) && decide (([] : List Int).length = 0)) = _; rw [show decide (([] : List Int).length = 0) = true from rfl, Bool.and_true]
theorem fitsB (y : List Int) : fitsField fdB 0 y = fitIts y 4 255 := by simp [fitsField, fdB]
/-- One extension, read from place k on. -/
def rdX (b : List Int) (k : Nat) : Option (Vl × Nat) :=
  match rdF fdT b k with
  | none => none
  | some (t, k1) => match rdF fdB b k1 with
    | none => none
    | some (y, k2) => some (⟨t.num, y.items⟩, k2)
/-- The first j extensions, read from place 1 on. -/
def rdXs (b : List Int) : Nat → Option (List Vl × Nat)
  | 0 => some ([], 1)
  | j + 1 => match rdXs b j with
    | none => none
    | some (l, k) => (rdX b k).map fun p => (l ++ [p.1], p.2)
def rdAll (b : List Int) : Option (List Vl × Nat) :=
  match rdF fdN b 0 with
  | none => none
  | some (c, _) => rdXs b c.num.toNat
def decX (b : List Int) : Option (List Vl) :=
  match rdAll b with
  | none => none
  | some (l, k) => if k = b.length ∧ areX l = true then some l else none
theorem rdF_kind1 {x : Fd} {b : List Int} {k k' : Nat} {t : Vl} (hk : x.kind = 1) (h : rdF x b k = some (t, k')) : t.items = [] ∧ k' = k + 1 := by
  unfold rdF at h
  split at h
  · cases h
  · rename_i z hz
    rw [if_pos hk] at h
    split at h
    · cases h; exact ⟨rfl, rfl⟩
    · cases h
theorem rdF_kind2 {x : Fd} {b : List Int} {k k' : Nat} {t : Vl} (hk : x.kind ≠ 1) (h : rdF x b k = some (t, k')) : t.num = 0 := by
  unfold rdF at h
  split at h
  · cases h
  · rename_i z hz
    rw [if_neg hk] at h
    split at h
    · split at h
      · cases h; rfl
      · cases h
    · cases h
theorem rdX_code {x : Vl} (h : okX x = true) (p r : List Int) : rdX (p ++ codeX x ++ r) p.length = some (x, (p ++ codeX x).length) := by
  unfold okX at h
  rw [Bool.and_eq_true] at h
  obtain ⟨t, y⟩ := x
  dsimp only at h
  have h1 := rdF_code (x := fdT) (y := ⟨t, []⟩) (by rw [fitsT]; exact h.1) p ((y.length : Int) :: y ++ r)
  have h2 := rdF_code (x := fdB) (y := ⟨0, y⟩) (by rw [fitsB]; exact h.2) (p ++ [t]) r
  have c1 : codeV fdT ⟨t, []⟩ = [t] := rfl
  have c2 : codeV fdB ⟨0, y⟩ = (y.length : Int) :: y := rfl
  rw [c1] at h1
  rw [c2] at h2
  have e : p ++ codeX ⟨t, y⟩ ++ r = p ++ [t] ++ ((y.length : Int) :: y ++ r) := by simp [codeX]
  have e2 : p ++ [t] ++ ((y.length : Int) :: y) ++ r = p ++ [t] ++ ((y.length : Int) :: y ++ r) := by simp
  rw [e2] at h2
  unfold rdX
  rw [e, h1]
  dsimp only
  rw [h2]
  simp [codeX]
theorem rdX_form {b : List Int} {k k' : Nat} {x : Vl} (h : rdX b k = some (x, k')) : k ≤ k' ∧ k' ≤ b.length ∧ b.take k' = b.take k ++ codeX x ∧ okX x = true := by
  unfold rdX at h
  split at h
  · cases h
  · rename_i t k1 h1
    split at h
    · cases h
    · rename_i y k2 h2
      cases h
      have f1 := rdF_form h1
      have f2 := rdF_form h2
      have g1 := rdF_kind1 (x := fdT) rfl h1
      have g2 := rdF_kind2 (x := fdB) (by decide) h2
      obtain ⟨tn, ti⟩ := t
      obtain ⟨yn, yi⟩ := y
      dsimp only at g1 g2 f1 f2 ⊢
      obtain ⟨rfl, _⟩ := g1
      subst g2
      refine ⟨by omega, f2.2.1, ?_, ?_⟩
      · rw [f2.2.2.1, f1.2.2.1]
        simp [codeV, fdT, fdB, codeX]
      · unfold okX
        rw [fitsT] at f1
        rw [fitsB] at f2
        rw [f1.2.2.2, f2.2.2.2]
        rfl
theorem rdXs_code {l : List Vl} (h : ∀ x ∈ l, okX x = true) : ∀ j, j ≤ l.length → rdXs (encX l) j = some (l.take j, 1 + (codesX (l.take j)).length)
  | 0, _ => by simp [rdXs, codesX]
  | j + 1, hj => by
    obtain ⟨x, hx⟩ : ∃ x, l[j]? = some x := ⟨_, List.getElem?_eq_getElem (by omega)⟩
    have e : encX l = ((l.length : Int) :: codesX (l.take j)) ++ codeX x ++ codesX (l.drop (j + 1)) := by
      unfold encX
      conv => lhs; rw [← List.take_append_drop (j + 1) l, codesX_app, codesX_take hx]
      simp
    have h1 := rdX_code (h x (List.mem_of_getElem? hx)) ((l.length : Int) :: codesX (l.take j)) (codesX (l.drop (j + 1)))
    rw [← e] at h1
    rw [rdXs, rdXs_code h j (by omega)]
    dsimp only
    rw [show 1 + (codesX (l.take j)).length = ((l.length : Int) :: codesX (l.take j)).length by simp; omega, h1, codesX_take hx, List.take_add_one, hx]
    simp
    omega
theorem rdXs_form {b : List Int} {c : Int} (hb : b.take 1 = [c]) : ∀ j l k, rdXs b j = some (l, k) → l.length = j ∧ k ≤ b.length ∧ b.take k = c :: codesX l ∧ ∀ x ∈ l, okX x = true
  | 0, l, k, h => by
    have : l = [] ∧ k = 1 := by simpa [rdXs, eq_comm] using h
    obtain ⟨rfl, rfl⟩ := this
    refine ⟨rfl, ?_, by rw [hb]; rfl, fun x hx => by cases hx⟩
    cases b with
    | nil => simp at hb
    | cons => simp
  | j + 1, l, k, h => by
    rw [rdXs] at h
    split at h
    · cases h
    · rename_i l0 k0 h0
      obtain ⟨q1, q2, q3, q4⟩ := rdXs_form hb j l0 k0 h0
      cases hx : rdX b k0 with
      | none => rw [hx] at h; cases h
      | some p =>
        rw [hx] at h
        obtain ⟨x, k1⟩ := p
        cases h
        obtain ⟨r1, r2, r3, r4⟩ := rdX_form hx
        refine ⟨by simp [q1], r2, by rw [r3, q3, codesX_app, codesX_one]; rfl, fun y hy => ?_⟩
        rcases List.mem_append.1 hy with s | s
        · exact q4 y s
        · have : y = x := by simpa using s
          rw [this]; exact r4
theorem rdAll_enc {l : List Vl} (h : areX l = true) : rdAll (encX l) = some (l, (encX l).length) := by
  obtain ⟨h1, h2, h3⟩ := areX_parts.1 h
  have h4 := rdF_num (x := fdN) (y := encX l) (k := 0) (z := (l.length : Int)) rfl rfl
  rw [fitsN, if_pos (by simp; omega)] at h4
  unfold rdAll
  rw [h4]
  dsimp only
  rw [Int.toNat_natCast, rdXs_code h2 l.length (Nat.le_refl _), List.take_length]
  simp [encX]
  omega
theorem rdAll_form {b : List Int} {l : List Vl} {k : Nat} (h : rdAll b = some (l, k)) : l.length ≤ 6 ∧ k ≤ b.length ∧ b.take k = encX l ∧ ∀ x ∈ l, okX x = true := by
  unfold rdAll at h
  split at h
  · cases h
  · rename_i c k0 h0
    have f := rdF_form h0
    have g := rdF_kind1 (x := fdN) rfl h0
    obtain ⟨cn, ci⟩ := c
    dsimp only at f g h
    obtain ⟨rfl, rfl⟩ := g
    rw [fitsN] at f
    have hc : 0 ≤ cn ∧ cn ≤ 6 := by simpa using f.2.2.2
    obtain ⟨q1, q2, q3, q4⟩ := rdXs_form (c := cn) (by rw [show (1 : Nat) = 0 + 1 from rfl, f.2.2.1]; rfl) _ _ _ h
    refine ⟨by omega, q2, ?_, q4⟩
    rw [q3]
    unfold encX
    rw [q1, Int.toNat_of_nonneg hc.1]
/-- What is read is just what was written. -/
theorem decX_iff {b : List Int} {l : List Vl} : decX b = some l ↔ areX l = true ∧ b = encX l := by
  constructor
  · intro h
    unfold decX at h
    split at h
    · cases h
    · rename_i l0 k h0
      split at h
      · rename_i hk
        cases h
        obtain ⟨_, _, h3, _⟩ := rdAll_form h0
        rw [hk.1, List.take_length] at h3
        exact ⟨hk.2, h3⟩
      · cases h
  · rintro ⟨h1, rfl⟩
    unfold decX
    rw [rdAll_enc h1]
    dsimp only
    rw [if_pos ⟨rfl, h1⟩]
theorem decX_few {b : List Int} {l : List Vl} (h : decX b = some l) : l.length ≤ 6 ∧ itemsOf l ≤ 24 := areX_few (decX_iff.1 h).1
/-- The place of a tag. -/
def extOf (l : List Vl) (t : Int) : Int := if t ∈ tagsX l then ((tagsX l).idxOf t : Int) else -1
def knownOf (l : List Vl) (ts : List Int) : List Vl := l.filter fun x => decide (x.num ∈ ts)
theorem extOf_no {l : List Vl} {t : Int} (h : ¬ t ∈ tagsX l) : extOf l t = -1 := if_neg h
theorem extOf_yes {l : List Vl} {t : Int} (h : t ∈ tagsX l) : extOf l t = ((tagsX l).idxOf t : Int) := if_pos h
theorem tags_at {l : List Vl} {j : Nat} {x : Vl} (h : l[j]? = some x) : (tagsX l)[j]? = some x.num := by simp [tagsX, h]
theorem tags_take {l : List Vl} {j : Nat} {x : Vl} (h : l[j]? = some x) : tagsX (l.take (j + 1)) = tagsX (l.take j) ++ [x.num] := by
  rw [List.take_add_one, h]
  simp [tagsX]
theorem tags_mem {l : List Vl} {j : Nat} {x : Vl} (h : l[j]? = some x) : x.num ∈ tagsX l := List.mem_of_getElem? (tags_at h)
theorem idx_le : ∀ {zs : List Int} {i : Nat} {z : Int}, zs[i]? = some z → zs.idxOf z ≤ i
  | [], i, z, h => by simp at h
  | x :: t, 0, z, h => by
    have : x = z := by simpa using h
    subst this
    simp
  | x :: t, i + 1, z, h => by
    have := idx_le (zs := t) (i := i) (z := z) (by simpa using h)
    rw [List.idxOf_cons]
    cases x == z <;> simp
    exact this
/-- The tags differ just if each stands first at its own place. -/
theorem nodup_first {zs : List Int} : zs.Nodup ↔ ∀ j z, zs[j]? = some z → ¬ zs.idxOf z < j := by
  constructor
  · intro h j z hz hlt
    have hj : j < zs.length := (List.getElem?_eq_some_iff.1 hz).1
    have hi : zs.idxOf z < zs.length := by omega
    have e1 := List.getElem_idxOf hi
    obtain ⟨_, e2⟩ := List.getElem?_eq_some_iff.1 hz
    exact List.pairwise_iff_getElem.1 h _ _ hi hj hlt (by rw [e1, e2])
  · intro h
    rw [List.Nodup, List.pairwise_iff_getElem]
    intro i j hi hj hij e
    refine h j zs[j] (List.getElem?_eq_getElem hj) ?_
    have : zs.idxOf zs[j] ≤ i := idx_le (by rw [List.getElem?_eq_getElem hi, e])
    omega
end Go.Proofs.Ytnjjfagokbbelaa
