/- The message that is made of a format and a seed: what it is, and that it fits. No function of the program is spoken of. -/
import Derived.Test.YtjmabidahofbbaaCodeL
import Derived.Test.YtjmabidahofbbaaPick
namespace Go.Proofs.Ytjmabidahofbbaa
open Go.ChangeShapes Go.WideShapes Go.ChangeAt Go.RowKit
set_option linter.unusedVariables false

/-- So many items are picked at as many places in a row. -/
def picks (s p : Int) : Nat → List Int
  | 0 => []
  | k + 1 => picks s p k ++ [pickOf s (p + k) 100]
theorem picks_len (s p : Int) : ∀ k, (picks s p k).length = k
  | 0 => rfl
  | k + 1 => by rw [picks, List.length_append, picks_len]; rfl
theorem picks_bd (s p : Int) : ∀ k, ∀ z ∈ picks s p k, 0 ≤ z ∧ z ≤ 99
  | 0 => fun z h => by simp [picks] at h
  | k + 1 => fun z h => by
    rw [picks, List.mem_append] at h
    rcases h with h | h
    · exact picks_bd s p k z h
    · rw [List.mem_singleton] at h
      have := pickOf_bd s (p + k) 100
      omega
/-- The value that is made of a field, from a place on. -/
def mkVal (x : Fd) (s p : Int) : Vl := if x.kind = 1 then ⟨pickOf s p (x.max + 1), []⟩ else ⟨0, picks s (p + 1) (pickOf s p (x.max + 1)).toNat⟩
theorem mkVal_num {x : Fd} {s p : Int} (h : x.kind = 1) : mkVal x s p = ⟨pickOf s p (x.max + 1), []⟩ := if_pos h
theorem mkVal_more {x : Fd} {s p : Int} (h : x.kind ≠ 1) : mkVal x s p = ⟨0, picks s (p + 1) (pickOf s p (x.max + 1)).toNat⟩ := if_neg h
/-- The values of the first fields. -/
def mkTo (l : List Fd) (s : Int) : Nat → List Vl
  | 0 => []
  | j + 1 => mkTo l s j ++ [match l[j]? with
    | some x => if isThere l (mkTo l s j) j = true then mkVal x s (16 * j) else ⟨0, []⟩
    | none => ⟨0, []⟩]
theorem mkTo_len (l : List Fd) (s : Int) : ∀ j, (mkTo l s j).length = j
  | 0 => rfl
  | j + 1 => by rw [mkTo, List.length_append, mkTo_len]; rfl
theorem mkTo_yes {l : List Fd} {s : Int} {j : Nat} {x : Fd} (hx : l[j]? = some x) (h : isThere l (mkTo l s j) j = true) : mkTo l s (j + 1) = mkTo l s j ++ [mkVal x s (16 * j)] := by rw [mkTo, hx]; dsimp only; rw [if_pos h]
theorem mkTo_no {l : List Fd} {s : Int} {j : Nat} {x : Fd} (hx : l[j]? = some x) (h : isThere l (mkTo l s j) j = false) : mkTo l s (j + 1) = mkTo l s j ++ [⟨0, []⟩] := by rw [mkTo, hx]; dsimp only; rw [if_neg (by rw [h]; decide)]
noncomputable def mkMsg (l : List Fd) (s : Int) : List Vl := if isFmt l = true then mkTo l s l.length else []
theorem mkMsg_yes {l : List Fd} (s : Int) (h : isFmt l = true) : mkMsg l s = mkTo l s l.length := if_pos h
theorem mkMsg_no {l : List Fd} (s : Int) (h : isFmt l = false) : mkMsg l s = [] := if_neg (by rw [h]; decide)

/-- What is made of a field fits it. -/
theorem allIn_of {y : List Int} {g : Int} (h : ∀ z ∈ y, 0 ≤ z ∧ z ≤ g) : allIn y g = true := by
  unfold allIn
  rw [List.all_eq_true]
  intro z hz
  exact decide_eq_true (h z hz)
theorem kind_of {x : Fd} (h1 : 1 ≤ x.max) (h2 : x.max ≤ mostOf x.kind) : x.kind = 1 ∨ x.kind = 2 ∨ x.kind = 3 := by
  unfold mostOf at h2
  by_cases a : x.kind = 1
  · exact .inl a
  by_cases b : x.kind = 2
  · exact .inr (.inl b)
  by_cases c : x.kind = 3
  · exact .inr (.inr c)
  rw [if_neg a, if_neg b, if_neg c] at h2
  omega
theorem mkVal_fits {x : Fd} {s p : Int} (h1 : 1 ≤ x.max) (h2 : x.max ≤ mostOf x.kind) : fitsField x (mkVal x s p).num (mkVal x s p).items = true := by
  have hb := pickOf_bd s p (x.max + 1)
  have hm := hb.2.2 (by omega)
  have hlen := picks_len s (p + 1) (pickOf s p (x.max + 1)).toNat
  have hin := picks_bd s (p + 1) (pickOf s p (x.max + 1)).toNat
  rcases kind_of h1 h2 with k | k | k
  · rw [mkVal_num k]
    unfold fitsField
    rw [k]
    simp [hb.1]
    omega
  · rw [mkVal_more (by omega)]
    have ha := allIn_of (g := 255) fun z hz => ⟨(hin z hz).1, by have := (hin z hz).2; omega⟩
    unfold fitsField fitIts
    rw [k]
    simp [hlen, ha]
    omega
  · rw [mkVal_more (by omega)]
    have ha := allIn_of (g := 99) fun z hz => ⟨(hin z hz).1, (hin z hz).2⟩
    unfold fitsField fitIts
    rw [k]
    simp [hlen, ha]
    omega
theorem okTo_max {l : List Fd} {n j : Nat} {x : Fd} (h : okTo l n) (hj : j < n) (hx : l[j]? = some x) : 1 ≤ x.max ∧ x.max ≤ mostOf x.kind := by
  have := h j x hj hx
  unfold fieldOk at this
  rw [Bool.and_eq_true] at this
  exact of_decide_eq_true this.1
/-- The first values of a made message are those of its beginning. -/
theorem mkTo_get (l : List Fd) (s : Int) {i : Nat} : ∀ {j : Nat}, i < j → (mkTo l s j)[i]? = (mkTo l s (i + 1))[i]?
  | 0, h => absurd h (by omega)
  | j + 1, h => by
    by_cases e : i = j
    · rw [e]
    · rw [mkTo, List.getElem?_append_left (by rw [mkTo_len]; omega)]
      exact mkTo_get l s (by omega)
theorem mkTo_pre (l : List Fd) (s : Int) {q i j : Nat} (hq : q < i) (hi : i ≤ j) : (mkTo l s j)[q]? = (mkTo l s i)[q]? := by
  rw [mkTo_get l s (show q < j by omega), mkTo_get l s hq]
theorem mkTo_fits {l : List Fd} (s : Int) (hok : okTo l l.length) : ∀ j, j ≤ l.length → fitsTo l (mkTo l s j) j
  | 0, _ => fitsTo_zero _ _
  | j + 1, hj => by
    have hx : l[j]? = some l[j] := List.getElem?_eq_getElem (by omega)
    generalize l[j] = x at hx
    have hc := okTo_cond hok (by omega) hx
    obtain ⟨h1, h2⟩ := okTo_max hok (by omega) hx
    have hprev := fitsTo_part hok (by omega) (fun q hq => (mkTo_pre l s hq (Nat.le_succ j)).symm) (mkTo_fits s hok j (by omega))
    have hth : isThere l (mkTo l s (j + 1)) j = isThere l (mkTo l s j) j := isThere_part hx hc fun q hq => mkTo_pre l s hq (Nat.le_succ j)
    have hlast : ∀ y, (mkTo l s j ++ [y])[j]? = some y := fun y => by rw [List.getElem?_append_right (by rw [mkTo_len]; omega), mkTo_len, Nat.sub_self]; rfl
    cases ht : isThere l (mkTo l s j) j with
    | true =>
      have e := mkTo_yes hx ht
      have hy : (mkTo l s (j + 1))[j]? = some (mkVal x s (16 * j)) := by rw [e]; exact hlast _
      exact fitsTo_step hprev hx hy (by rw [fitsAt_there (hth.trans ht)]; exact mkVal_fits h1 h2)
    | false =>
      have e := mkTo_no hx ht
      have hy : (mkTo l s (j + 1))[j]? = some ⟨0, []⟩ := by rw [e]; exact hlast _
      exact fitsTo_step hprev hx hy (by rw [fitsAt_not (hth.trans ht)]; rfl)
theorem mkMsg_fits {l : List Fd} (s : Int) (h : isFmt l = true) : fitsFmt l (mkMsg l s) = true := by
  rw [mkMsg_yes s h]
  exact fitsFmt_yes h (mkTo_len _ _ _) (mkTo_fits s (isFmt_iff.1 h).2 _ (Nat.le_refl _))
theorem mkTo_items {l : List Fd} (s : Int) (hok : okTo l l.length) : ∀ j, j ≤ l.length → itemsOf (mkTo l s j) ≤ 5 * j
  | 0, _ => by simp [mkTo, itemsOf]
  | j + 1, hj => by
    have hx : l[j]? = some l[j] := List.getElem?_eq_getElem (by omega)
    generalize l[j] = x at hx
    obtain ⟨h1, h2⟩ := okTo_max hok (by omega) hx
    have ih := mkTo_items s hok j (by omega)
    have happ : ∀ y : Vl, itemsOf (mkTo l s j ++ [y]) = itemsOf (mkTo l s j) + y.items.length := fun y => by simp [itemsOf]
    cases ht : isThere l (mkTo l s j) j with
    | true =>
      rw [mkTo_yes hx ht, happ]
      have hv : (mkVal x s (16 * j)).items.length ≤ 5 := by
        by_cases k : x.kind = 1
        · rw [mkVal_num k]; simp
        · rw [mkVal_more k]
          have hb := (pickOf_bd s (16 * j) (x.max + 1)).2.2 (by omega)
          have hm : x.max ≤ 5 := by
            rcases kind_of h1 h2 with k' | k' | k'
            · exact absurd k' k
            · rw [k'] at h2; exact h2
            · rw [k'] at h2; exact h2
          rw [picks_len]
          omega
      omega
    | false =>
      rw [mkTo_no hx ht, happ]
      have : (⟨0, []⟩ : Vl).items.length = 0 := rfl
      omega
theorem mkMsg_few (l : List Fd) (s : Int) : (mkMsg l s).length ≤ 6 ∧ itemsOf (mkMsg l s) ≤ 30 := by
  cases h : isFmt l with
  | true =>
    rw [mkMsg_yes s h]
    have h0 := isFmt_iff.1 h
    have := mkTo_items s h0.2 l.length (Nat.le_refl _)
    have := mkTo_len l s l.length
    have := h0.1
    omega
  | false => rw [mkMsg_no s h]; simp [itemsOf]
end Go.Proofs.Ytjmabidahofbbaa
