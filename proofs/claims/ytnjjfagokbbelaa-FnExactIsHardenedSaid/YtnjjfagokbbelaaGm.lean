/- Reserved values in motion, as mathematics: which tag a seed inserts, with which bytes and where; what stays when reserved tags are taken away. -/
import Derived.Test.YtnjjfagokbbelaaKn0
import Derived.Test.YtnjjfagokbbelaaRv
import Derived.Test.YtnjjfagokbbelaaPick
namespace Go.Proofs.Ytnjjfagokbbelaa
set_option linter.unusedVariables false

def tagG (s : Int) : Int := 16 * pickOf s 0 16 + 10
def sizeG (s : Int) : Nat := (pickOf s 2 3).toNat
def bodyG (s : Int) : List Int := List.replicate (sizeG s) (pickOf s 3 256)
def placeG (l : List Vl) (s : Int) : Nat := (pickOf s 1 (l.length + 1 : Nat)).toNat
/-- Whether a seed inserts an extension. -/
def wantG (l : List Vl) (s : Int) : Bool := areX l && decide (l.length < 6) && decide (¬ tagG s ∈ tagsX l)
def addX (l : List Vl) (s : Int) : List Vl := if wantG l s then l.take (placeG l s) ++ ⟨tagG s, bodyG s⟩ :: l.drop (placeG l s) else l
def strX (l : List Vl) : List Vl := whX (fun t => !resv t) l
def hasG (l : List Vl) : Bool := (tagsX l).any resv
theorem tagG_bd (s : Int) : 0 ≤ pickOf s 0 16 ∧ pickOf s 0 16 ≤ 15 := by
  have h := pickOf_bd s 0 16
  have := h.2.2 (by omega)
  omega
theorem tagG_resv (s : Int) : resv (tagG s) = true := by
  have h := tagG_bd s
  unfold resv tagG
  rw [Bool.and_eq_true]
  refine ⟨inB_iff.2 (by omega), ?_⟩
  rw [beq_iff_eq]
  omega
theorem tagG_in (s : Int) : 10 ≤ tagG s ∧ tagG s ≤ 250 := by
  have h := tagG_bd s
  unfold tagG
  omega
theorem sizeG_few (s : Int) : sizeG s ≤ 2 := by
  have h := pickOf_bd s 2 3
  have := h.2.2 (by omega)
  unfold sizeG
  omega
theorem bodyG_len (s : Int) : (bodyG s).length = sizeG s := by simp [bodyG]
theorem fillG_bd (s : Int) : 0 ≤ pickOf s 3 256 ∧ pickOf s 3 256 ≤ 255 := by
  have h := pickOf_bd s 3 256
  have := h.2.2 (by omega)
  omega
theorem placeG_le (l : List Vl) (s : Int) : placeG l s ≤ l.length := by
  have h := pickOf_bd s 1 (l.length + 1 : Nat)
  have := h.2.2 (by omega)
  unfold placeG
  omega
theorem placeG_int (l : List Vl) (s : Int) : ((placeG l s : Nat) : Int) = pickOf s 1 (l.length + 1 : Nat) := by
  have h := pickOf_bd s 1 (l.length + 1 : Nat)
  unfold placeG
  omega
theorem sizeG_int (s : Int) : ((sizeG s : Nat) : Int) = pickOf s 2 3 := by
  have h := pickOf_bd s 2 3
  unfold sizeG
  omega
theorem wantG_parts {l : List Vl} {s : Int} : wantG l s = true ↔ areX l = true ∧ l.length < 6 ∧ ¬ tagG s ∈ tagsX l := by
  unfold wantG
  rw [Bool.and_eq_true, Bool.and_eq_true, decide_eq_true_iff, decide_eq_true_iff]
  exact and_assoc
theorem okX_grease (s : Int) : okX ⟨tagG s, bodyG s⟩ = true := by
  have h := tagG_in s
  have h2 := sizeG_few s
  have h3 := fillG_bd s
  unfold okX
  rw [Bool.and_eq_true]
  refine ⟨decide_eq_true ⟨by dsimp only; omega, by dsimp only; omega⟩, ?_⟩
  have h4 := bodyG_len s
  unfold fitIts
  rw [Bool.and_eq_true]
  refine ⟨decide_eq_true (by dsimp only; omega), ?_⟩
  unfold allIn
  rw [List.all_eq_true]
  intro x hx
  have hx2 : x ∈ List.replicate (sizeG s) (pickOf s 3 256) := hx
  rw [List.eq_of_mem_replicate hx2]
  exact decide_eq_true (by omega)
theorem tags_insert (l : List Vl) (k : Nat) (x : Vl) : tagsX (l.take k ++ x :: l.drop k) = (tagsX l).take k ++ x.num :: (tagsX l).drop k := by simp [tagsX, List.map_take, List.map_drop]
theorem addX_are {l : List Vl} {s : Int} (h : areX l = true) : areX (addX l s) = true := by
  unfold addX
  split
  · rename_i hw
    obtain ⟨_, h1, h2⟩ := wantG_parts.1 hw
    obtain ⟨h3, h4, h5⟩ := areX_parts.1 h
    refine areX_parts.2 ⟨by have := placeG_le l s; simp; omega, ?_, ?_⟩
    · intro x hx
      rw [List.mem_append, List.mem_cons] at hx
      rcases hx with hx | rfl | hx
      · exact h4 x (List.mem_of_mem_take hx)
      · exact okX_grease s
      · exact h4 x (List.mem_of_mem_drop hx)
    · rw [tags_insert]
      refine (List.perm_middle.nodup_iff).2 ?_
      rw [List.take_append_drop, List.nodup_cons]
      exact ⟨h2, h5⟩
  · exact h
theorem wh_insert (f : Int → Bool) (l : List Vl) (k : Nat) (x : Vl) (h : f x.num = false) : whX f (l.take k ++ x :: l.drop k) = whX f l := by
  conv => rhs; rw [← List.take_append_drop k l]
  unfold whX
  rw [List.filter_append, List.filter_append, List.filter_cons, h]
  rfl
theorem wh_add (f : Int → Bool) (l : List Vl) (s : Int) (h : f (tagG s) = false) : whX f (addX l s) = whX f l := by
  unfold addX
  split
  · exact wh_insert f l _ _ h
  · rfl
theorem strX_add (l : List Vl) (s : Int) : strX (addX l s) = strX l := wh_add _ l s (by rw [tagG_resv]; rfl)
theorem known_add (l : List Vl) (s : Int) (ts : List Int) (h : ∀ t ∈ ts, resv t = false) : knownOf (addX l s) ts = knownOf l ts := by
  rw [knownOf_wh, knownOf_wh]
  refine wh_add _ l s (decide_eq_false fun hm => ?_)
  have := h _ hm
  rw [tagG_resv] at this
  cases this
theorem known_five (l : List Vl) (s : Int) : knownOf (addX l s) [1, 2, 3, 40, 200] = knownOf l [1, 2, 3, 40, 200] := known_add l s _ (by
  intro t ht
  simp at ht
  rcases ht with rfl | rfl | rfl | rfl | rfl <;> decide)
theorem add_tag {l : List Vl} {s : Int} (h : areX l = true) (h6 : l.length < 6) : tagG s ∈ tagsX (addX l s) := by
  by_cases hm : tagG s ∈ tagsX l
  · unfold addX
    split
    · rw [tags_insert, List.mem_append, List.mem_cons]
      exact Or.inr (Or.inl rfl)
    · exact hm
  · unfold addX
    rw [if_pos (wantG_parts.2 ⟨h, h6, hm⟩), tags_insert, List.mem_append, List.mem_cons]
    exact Or.inr (Or.inl rfl)
theorem strX_tags (l : List Vl) : tagsX (strX l) = (tagsX l).filter fun t => !resv t := by
  unfold tagsX strX whX
  rw [List.filter_map]
  rfl
theorem hasG_str (l : List Vl) : hasG (strX l) = false := by
  unfold hasG
  rw [strX_tags, List.any_eq_false]
  intro x hx
  have := (List.mem_filter.1 hx).2
  simpa using this
theorem strX_twice (l : List Vl) : strX (strX l) = strX l := by
  unfold strX whX
  rw [List.filter_filter]
  simp
theorem strX_few (l : List Vl) : (strX l).length ≤ l.length := wh_few _ l
theorem strX_count : ∀ l : List Vl, (strX l).length + (tagsX l).countP resv = l.length
  | [] => rfl
  | x :: t => by
    have ih : (t.filter fun x => !resv x.num).length + (t.map Vl.num).countP resv = t.length := strX_count t
    show ((x :: t).filter fun x => !resv x.num).length + ((x :: t).map Vl.num).countP resv = t.length + 1
    rw [List.filter_cons, List.map_cons, List.countP_cons]
    cases h : resv x.num
    · rw [if_pos (show (!false) = true from rfl), if_neg (by simp), List.length_cons]
      omega
    · rw [if_neg (by simp), if_pos rfl]
      omega
theorem strX_len (l : List Vl) : decide ((strX l).length < l.length) = hasG l := by
  unfold hasG
  have h : (strX l).length + ((tagsX l).countP resv) = l.length := by
    exact strX_count l
  cases e : (tagsX l).any resv with
  | true =>
    have : 0 < (tagsX l).countP resv := by
      rw [List.countP_pos_iff]
      simpa using e
    exact decide_eq_true (by omega)
  | false =>
    have : (tagsX l).countP resv = 0 := by
      rw [List.countP_eq_zero]
      intro x hx
      have := List.any_eq_false.1 e x hx
      exact this
    exact decide_eq_false (by omega)
theorem addX_len (l : List Vl) (s : Int) : (addX l s).length ≤ l.length + 1 := by
  unfold addX
  split
  · have := placeG_le l s
    simp
    omega
  · omega
theorem addX_items (l : List Vl) (s : Int) : itemsOf (addX l s) ≤ itemsOf l + 2 := by
  unfold addX
  split
  · have h2 := sizeG_few s
    have h3 : itemsOf (l.take (placeG l s)) + itemsOf (l.drop (placeG l s)) = itemsOf l := by
      conv => rhs; rw [← List.take_append_drop (placeG l s) l]
      unfold itemsOf
      rw [List.map_append, List.sum_append]
    have h4 : itemsOf (l.take (placeG l s) ++ ⟨tagG s, bodyG s⟩ :: l.drop (placeG l s)) = itemsOf (l.take (placeG l s)) + ((bodyG s).length + itemsOf (l.drop (placeG l s))) := by
      unfold itemsOf
      rw [List.map_append, List.sum_append, List.map_cons, List.sum_cons]
    rw [h4, bodyG_len]
    omega
  · omega
theorem addX_few {l : List Vl} {s : Int} (h : l.length + itemsOf l ≤ 1048576) : (addX l s).length + itemsOf (addX l s) ≤ 1048576 := by
  have h1 := addX_len l s
  have h2 := addX_items l s
  by_cases hw : wantG l s = true
  · have h3 := areX_few (wantG_parts.1 hw).1
    omega
  · have e : addX l s = l := by unfold addX; rw [if_neg hw]
    rw [e]
    exact h
theorem addX_mem {l : List Vl} {s t : Int} (h : t ∈ tagsX (addX l s)) : t ∈ tagsX l ∨ t = tagG s := by
  unfold addX at h
  split at h
  · rw [tags_insert, List.mem_append, List.mem_cons] at h
    rcases h with h | rfl | h
    · exact Or.inl (List.mem_of_mem_take h)
    · exact Or.inr rfl
    · exact Or.inl (List.mem_of_mem_drop h)
  · exact Or.inl h
theorem known_all (l : List Vl) : knownOf l (tagsX l) = l := by
  unfold knownOf
  rw [List.filter_eq_self]
  intro x hx
  exact decide_eq_true (List.mem_map_of_mem hx)
end Go.Proofs.Ytnjjfagokbbelaa
