/- A number that is picked by a seed, a place and a bound, in the program and in its model. Reserved values in motion, as mathematics: which tag a seed inserts, with which bytes and where; what stays when reserved tags are taken away. Ascending lists without a number twice: how a number is put into one; the sorted list whose equal neighbours are one. Lists of versions as words of nine bits: mathematics. No function of the program is spoken of. -/
import Derived.Test.YtcmjadfpifpknaaGreatG12
import Derived.Test.YtcmjadfpifpknaaGreatG1
import Derived.Test.YtcmjadfpifpknaaGreatG11
import Derived.Lib.SlicesCompact
import Derived.Laws.BitsLemmas
import Derived.Lib.BitFns
namespace Go.Proofs.YtcmjadfpifpknaaGreat
open Go.ChangeShapes Go.WideShapes Go.ChangeAt Go.RowKit
set_option linter.unusedVariables false

/-- The remainder where the divisor is in range, else 0. -/
def modOf (p q : Int) : Int := if 1 ≤ q ∧ q ≤ 1000000000000 then p % q else 0
/-- The number that is picked. -/
def pickOf (s p n : Int) : Int := modOf (hashOf [s, p]) n
theorem pickOf_few {s p n : Int} (h : n < 1) : pickOf s p n = 0 := by unfold pickOf modOf; rw [if_neg (by omega)]
theorem pickOf_bd (s p n : Int) : 0 ≤ pickOf s p n ∧ pickOf s p n ≤ 1000000000000 ∧ (1 ≤ n → pickOf s p n < n) := by
  unfold pickOf modOf
  by_cases h : 1 ≤ n ∧ n ≤ 1000000000000
  · rw [if_pos h]
    have h1 := Int.emod_nonneg (hashOf [s, p]) (show n ≠ 0 by omega)
    have h2 := Int.emod_lt_of_pos (hashOf [s, p]) (show 0 < n by omega)
    omega
  · rw [if_neg h]; omega

theorem modI_any (p q : Int) (w0 : Fit64 p) (w1 : Fit64 q) (w : World) :
    Calls Tryz.prog 166 #[.int .i64 p, .int .i64 q] w fun e w' => e = .returned (.int .i64 (modOf p q)) ∧ w = w' := by
  have b1 := bounds_i64 w1
  by_cases h : 1 ≤ q ∧ q ≤ 1000000000000
  · rw [show modOf p q = p % q from if_pos h]
    exact mod_in p q h.1 h.2 w0 w
  · rw [show modOf p q = 0 from if_neg h]
    have b0 := bounds_i64 w0
    clear w0 w1
    by_cases h1 : 1 ≤ q
    · have h2 : ¬ q ≤ 1000000000000 := fun e => h ⟨h1, e⟩
      clear h
      go_enter Tryz.func166, Tryz.ntmps166
      go_wp2
      go_ret
      exact ⟨rfl, rfl⟩
    · go_enter Tryz.func166, Tryz.ntmps166
      go_wp2
      go_ret
      exact ⟨rfl, rfl⟩
theorem modS_any (p q : Int) (w0 : Fit64 p) (w1 : Fit64 q) (w : World) :
    Calls Tryz.prog 163 #[.int .i64 p, .int .i64 q] w fun e w' => e = .returned (.int .i64 (modOf p q)) ∧ w = w' := by
  have b1 := bounds_i64 w1
  by_cases h : 1 ≤ q ∧ q ≤ 1000000000000
  · rw [show modOf p q = p % q from if_pos h]
    exact specMod_in p q h.1 h.2 w0 w
  · rw [show modOf p q = 0 from if_neg h]
    have b0 := bounds_i64 w0
    clear w0 w1
    by_cases h1 : 1 ≤ q
    · have h2 : ¬ q ≤ 1000000000000 := fun e => h ⟨h1, e⟩
      clear h
      go_enter Tryz.func163, Tryz.ntmps163
      go_wp2
      go_ret
      exact ⟨rfl, rfl⟩
    · go_enter Tryz.func163, Tryz.ntmps163
      go_wp2
      go_ret
      exact ⟨rfl, rfl⟩

theorem nums_two (w : World) (k : IntKind) (x y : Int) (t : TypeId) : Nums k (w.alloc (.cells #[.int k x, .int k y] t)) (some ⟨w.heap.size, 0, none⟩) 2 [x, y] :=
  ⟨rfl, by omega, fun j hj => ⟨_, rfl, by
    have hb : (w.alloc (.cells #[.int k x, .int k y] t)).heap[w.heap.size]? = some (.cells #[.int k x, .int k y] t (0, 0)) := heap_alloc_new w _
    have hj' : j = 0 ∨ j = 1 := by omega
    rcases hj' with rfl | rfl
    · exact block_cell hb 0
    · exact block_cell hb 1⟩⟩
theorem fits_two {x y : Int} (hx : Fit64 x) (hy : Fit64 y) : Fits64 [x, y] := by
  intro z hz
  simp at hz
  rcases hz with rfl | rfl
  · exact hx
  · exact hy
theorem hash_fit (l : List Int) : Fit64 (hashOf l) := by have := hashOf_bd l; exact fit_mk (by omega) (by omega)

end Go.Proofs.YtcmjadfpifpknaaGreat
namespace Go.Proofs.YtcmjadfpifpknaaGreat
set_option linter.unusedVariables false

def tagG (s : Int) : Int := 16 * pickOf s 0 16 + 10
def sizeG (s : Int) : Nat := (pickOf s 2 3).toNat
def bodyG (s : Int) : List Int := List.replicate (sizeG s) (pickOf s 3 256)
def placeG (l : List Vl) (s : Int) : Nat := (pickOf s 1 (l.length + 1 : Nat)).toNat
/-- Whether a seed inserts an extension. -/
def wantG (l : List Vl) (s : Int) : Bool := areX l && decide (l.length < 6) && decide (¬ tagG s ∈ tagsX l)
def addX (l : List Vl) (s : Int) : List Vl := if wantG l s then l.take (placeG l s) ++ ⟨tagG s, bodyG s⟩ :: l.drop (placeG l s) else l
def strX (l : List Vl) : List Vl := whX (fun t => !resv t) l
def hasG (l : List Vl) : Bool := (tagsX l).any resv
theorem tagG_bd (s : Int) : 0 ≤ pickOf s 0 16 ∧ pickOf s 0 16 ≤ 15 := by
  have h := pickOf_bd s 0 16
  have := h.2.2 (by omega)
  omega
theorem tagG_resv (s : Int) : resv (tagG s) = true := by
  have h := tagG_bd s
  unfold resv tagG
  rw [Bool.and_eq_true]
  refine ⟨inBd_iff.2 (by omega), ?_⟩
  rw [beq_iff_eq]
  omega
theorem tagG_in (s : Int) : 10 ≤ tagG s ∧ tagG s ≤ 250 := by
  have h := tagG_bd s
  unfold tagG
  omega
theorem sizeG_few (s : Int) : sizeG s ≤ 2 := by
  have h := pickOf_bd s 2 3
  have := h.2.2 (by omega)
  unfold sizeG
  omega
theorem bodyG_len (s : Int) : (bodyG s).length = sizeG s := by simp [bodyG]
theorem fillG_bd (s : Int) : 0 ≤ pickOf s 3 256 ∧ pickOf s 3 256 ≤ 255 := by
  have h := pickOf_bd s 3 256
  have := h.2.2 (by omega)
  omega
theorem placeG_le (l : List Vl) (s : Int) : placeG l s ≤ l.length := by
  have h := pickOf_bd s 1 (l.length + 1 : Nat)
  have := h.2.2 (by omega)
  unfold placeG
  omega
theorem placeG_int (l : List Vl) (s : Int) : ((placeG l s : Nat) : Int) = pickOf s 1 (l.length + 1 : Nat) := by
  have h := pickOf_bd s 1 (l.length + 1 : Nat)
  unfold placeG
  omega
theorem sizeG_int (s : Int) : ((sizeG s : Nat) : Int) = pickOf s 2 3 := by
  have h := pickOf_bd s 2 3
  unfold sizeG
  omega
theorem wantG_parts {l : List Vl} {s : Int} : wantG l s = true ↔ areX l = true ∧ l.length < 6 ∧ ¬ tagG s ∈ tagsX l := by
  unfold wantG
  rw [Bool.and_eq_true, Bool.and_eq_true, decide_eq_true_iff, decide_eq_true_iff]
  exact and_assoc
theorem okX_grease (s : Int) : okX ⟨tagG s, bodyG s⟩ = true := by
  have h := tagG_in s
  have h2 := sizeG_few s
  have h3 := fillG_bd s
  unfold okX
  rw [Bool.and_eq_true]
  refine ⟨decide_eq_true ⟨by dsimp only; omega, by dsimp only; omega⟩, ?_⟩
  have h4 := bodyG_len s
  unfold fitIts
  rw [Bool.and_eq_true]
  refine ⟨decide_eq_true (by dsimp only; omega), ?_⟩
  unfold allIn
  rw [List.all_eq_true]
  intro x hx
  have hx2 : x ∈ List.replicate (sizeG s) (pickOf s 3 256) := hx
  rw [List.eq_of_mem_replicate hx2]
  exact decide_eq_true (by omega)
theorem tags_insert (l : List Vl) (k : Nat) (x : Vl) : tagsX (l.take k ++ x :: l.drop k) = (tagsX l).take k ++ x.num :: (tagsX l).drop k := by simp [tagsX, List.map_take, List.map_drop]
theorem addX_are {l : List Vl} {s : Int} (h : areX l = true) : areX (addX l s) = true := by
  unfold addX
  split
  · rename_i hw
    obtain ⟨_, h1, h2⟩ := wantG_parts.1 hw
    obtain ⟨h3, h4, h5⟩ := areX_parts.1 h
    refine areX_parts.2 ⟨by have := placeG_le l s; simp; omega, ?_, ?_⟩
    · intro x hx
      rw [List.mem_append, List.mem_cons] at hx
      rcases hx with hx | rfl | hx
      · exact h4 x (List.mem_of_mem_take hx)
      · exact okX_grease s
      · exact h4 x (List.mem_of_mem_drop hx)
    · rw [tags_insert]
      refine (List.perm_middle.nodup_iff).2 ?_
      rw [List.take_append_drop, List.nodup_cons]
      exact ⟨h2, h5⟩
  · exact h
theorem wh_insert (f : Int → Bool) (l : List Vl) (k : Nat) (x : Vl) (h : f x.num = false) : whX f (l.take k ++ x :: l.drop k) = whX f l := by
  conv => rhs; rw [← List.take_append_drop k l]
  unfold whX
  rw [List.filter_append, List.filter_append, List.filter_cons, h]
  rfl
theorem wh_add (f : Int → Bool) (l : List Vl) (s : Int) (h : f (tagG s) = false) : whX f (addX l s) = whX f l := by
  unfold addX
  split
  · exact wh_insert f l _ _ h
  · rfl
theorem strX_add (l : List Vl) (s : Int) : strX (addX l s) = strX l := wh_add _ l s (by rw [tagG_resv]; rfl)
theorem known_add (l : List Vl) (s : Int) (ts : List Int) (h : ∀ t ∈ ts, resv t = false) : knownOf (addX l s) ts = knownOf l ts := by
  rw [knownOf_wh, knownOf_wh]
  refine wh_add _ l s (decide_eq_false fun hm => ?_)
  have := h _ hm
  rw [tagG_resv] at this
  cases this
theorem known_five (l : List Vl) (s : Int) : knownOf (addX l s) [1, 2, 3, 40, 200] = knownOf l [1, 2, 3, 40, 200] := known_add l s _ (by
  intro t ht
  simp at ht
  rcases ht with rfl | rfl | rfl | rfl | rfl <;> decide)
theorem add_tag {l : List Vl} {s : Int} (h : areX l = true) (h6 : l.length < 6) : tagG s ∈ tagsX (addX l s) := by
  by_cases hm : tagG s ∈ tagsX l
  · unfold addX
    split
    · rw [tags_insert, List.mem_append, List.mem_cons]
      exact Or.inr (Or.inl rfl)
    · exact hm
  · unfold addX
    rw [if_pos (wantG_parts.2 ⟨h, h6, hm⟩), tags_insert, List.mem_append, List.mem_cons]
    exact Or.inr (Or.inl rfl)
theorem strX_tags (l : List Vl) : tagsX (strX l) = (tagsX l).filter fun t => !resv t := by
  unfold tagsX strX whX
  rw [List.filter_map]
  rfl
theorem hasG_str (l : List Vl) : hasG (strX l) = false := by
  unfold hasG
  rw [strX_tags, List.any_eq_false]
  intro x hx
  have := (List.mem_filter.1 hx).2
  simpa using this
theorem strX_twice (l : List Vl) : strX (strX l) = strX l := by
  unfold strX whX
  rw [List.filter_filter]
  simp
theorem strX_few (l : List Vl) : (strX l).length ≤ l.length := wh_few _ l
theorem strX_count : ∀ l : List Vl, (strX l).length + (tagsX l).countP resv = l.length
  | [] => rfl
  | x :: t => by
    have ih : (t.filter fun x => !resv x.num).length + (t.map Vl.num).countP resv = t.length := strX_count t
    show ((x :: t).filter fun x => !resv x.num).length + ((x :: t).map Vl.num).countP resv = t.length + 1
    rw [List.filter_cons, List.map_cons, List.countP_cons]
    cases h : resv x.num
    · rw [if_pos (show (!false) = true from rfl), if_neg (by simp), List.length_cons]
      omega
    · rw [if_neg (by simp), if_pos rfl]
      omega
theorem strX_len (l : List Vl) : decide ((strX l).length < l.length) = hasG l := by
  unfold hasG
  have h : (strX l).length + ((tagsX l).countP resv) = l.length := by
    exact strX_count l
  cases e : (tagsX l).any resv with
  | true =>
    have : 0 < (tagsX l).countP resv := by
      rw [List.countP_pos_iff]
      simpa using e
    exact decide_eq_true (by omega)
  | false =>
    have : (tagsX l).countP resv = 0 := by
      rw [List.countP_eq_zero]
      intro x hx
      have := List.any_eq_false.1 e x hx
      exact this
    exact decide_eq_false (by omega)
theorem addX_len (l : List Vl) (s : Int) : (addX l s).length ≤ l.length + 1 := by
  unfold addX
  split
  · have := placeG_le l s
    simp
    omega
  · omega
theorem addX_items (l : List Vl) (s : Int) : itemsOf (addX l s) ≤ itemsOf l + 2 := by
  unfold addX
  split
  · have h2 := sizeG_few s
    have h3 : itemsOf (l.take (placeG l s)) + itemsOf (l.drop (placeG l s)) = itemsOf l := by
      conv => rhs; rw [← List.take_append_drop (placeG l s) l]
      unfold itemsOf
      rw [List.map_append, List.sum_append]
    have h4 : itemsOf (l.take (placeG l s) ++ ⟨tagG s, bodyG s⟩ :: l.drop (placeG l s)) = itemsOf (l.take (placeG l s)) + ((bodyG s).length + itemsOf (l.drop (placeG l s))) := by
      unfold itemsOf
      rw [List.map_append, List.sum_append, List.map_cons, List.sum_cons]
    rw [h4, bodyG_len]
    omega
  · omega
theorem addX_few {l : List Vl} {s : Int} (h : l.length + itemsOf l ≤ 1048576) : (addX l s).length + itemsOf (addX l s) ≤ 1048576 := by
  have h1 := addX_len l s
  have h2 := addX_items l s
  by_cases hw : wantG l s = true
  · have h3 := areX_few (wantG_parts.1 hw).1
    omega
  · have e : addX l s = l := by unfold addX; rw [if_neg hw]
    rw [e]
    exact h
theorem addX_mem {l : List Vl} {s t : Int} (h : t ∈ tagsX (addX l s)) : t ∈ tagsX l ∨ t = tagG s := by
  unfold addX at h
  split at h
  · rw [tags_insert, List.mem_append, List.mem_cons] at h
    rcases h with h | rfl | h
    · exact Or.inl (List.mem_of_mem_take h)
    · exact Or.inr rfl
    · exact Or.inl (List.mem_of_mem_drop h)
  · exact Or.inl h
theorem known_all (l : List Vl) : knownOf l (tagsX l) = l := by
  unfold knownOf
  rw [List.filter_eq_self]
  intro x hx
  exact decide_eq_true (List.mem_map_of_mem hx)
end Go.Proofs.YtcmjadfpifpknaaGreat
namespace Go.Proofs.YtcmjadfpifpknaaGreat
open Go.ChangeShapes Go.WideShapes Go.ChangeAt Go.RowKit
set_option linter.unusedVariables false

/-- A number is put into an ascending list, if it isn't there. -/
def putL : List Int → Int → List Int
  | [], n => [n]
  | x :: t, n => if x < n then x :: putL t n else if x = n then x :: t else n :: x :: t
theorem putL_len (n : Int) : ∀ l : List Int, (putL l n).length ≤ l.length + 1
  | [] => by simp [putL]
  | x :: t => by
    have := putL_len n t
    unfold putL
    split
    · simp; omega
    · split <;> simp
theorem putL_there {n : Int} : ∀ {l : List Int} {j : Nat}, (∀ y ∈ l.take j, y < n) → l[j]? = some n → putL l n = l
  | [], j, h, hj => by simp at hj
  | x :: t, 0, h, hj => by
    have : x = n := by simpa using hj
    subst this
    simp [putL]
  | x :: t, j + 1, h, hj => by
    have hx : x < n := h x (by simp)
    have := putL_there (l := t) (j := j) (fun y hy => h y (by simp [hy])) (by simpa using hj)
    unfold putL
    rw [if_pos hx, this]
theorem putL_new {n : Int} : ∀ {l : List Int} {j : Nat}, (∀ y ∈ l.take j, y < n) → (∀ y, l[j]? = some y → n < y) → putL l n = l.take j ++ n :: l.drop j
  | [], j, h, hj => by simp [putL]
  | x :: t, 0, h, hj => by
    have hx := hj x (by simp)
    unfold putL
    rw [if_neg (by omega), if_neg (by omega)]
    rfl
  | x :: t, j + 1, h, hj => by
    have hx : x < n := h x (by simp)
    have := putL_new (l := t) (j := j) (fun y hy => h y (by simp [hy])) (fun y hy => hj y (by simpa using hy))
    unfold putL
    rw [if_pos hx, this]
    rfl
theorem mem_putL {n y : Int} : ∀ {l : List Int}, y ∈ putL l n ↔ y = n ∨ y ∈ l
  | [] => by simp [putL]
  | x :: t => by
    have := mem_putL (n := n) (y := y) (l := t)
    unfold putL
    split
    · rw [List.mem_cons, this, List.mem_cons]
      constructor <;> (intro h; rcases h with h | h | h <;> simp [h])
    · split
      · rename_i h1 h2
        subst h2
        simp
      · rw [List.mem_cons]
/-- Strictly ascending. -/
def Asc (l : List Int) : Prop := l.Pairwise (· < ·)
theorem asc_putL {n : Int} : ∀ {l : List Int}, Asc l → Asc (putL l n)
  | [], h => by simp [putL, Asc]
  | x :: t, h => by
    have h1 := List.pairwise_cons.1 h
    unfold putL
    split
    · rename_i hx
      refine List.pairwise_cons.2 ⟨fun y hy => ?_, asc_putL h1.2⟩
      rcases mem_putL.1 hy with rfl | hy
      · exact hx
      · exact h1.1 y hy
    · split
      · exact h
      · rename_i hx hx2
        refine List.pairwise_cons.2 ⟨fun y hy => ?_, h⟩
        rcases List.mem_cons.1 hy with rfl | hy
        · omega
        · have := h1.1 y hy
          omega
theorem asc_ext : ∀ {l m : List Int}, Asc l → Asc m → (∀ y, y ∈ l ↔ y ∈ m) → l = m
  | [], [], _, _, _ => rfl
  | [], y :: m, _, _, h => absurd ((h y).2 (by simp)) (by simp)
  | x :: l, [], _, _, h => absurd ((h x).1 (by simp)) (by simp)
  | x :: l, y :: m, hl, hm, h => by
    have h1 := List.pairwise_cons.1 hl
    have h2 := List.pairwise_cons.1 hm
    have hxy : x = y := by
      have a1 : x ∈ y :: m := (h x).1 (by simp)
      have a2 : y ∈ x :: l := (h y).2 (by simp)
      rcases List.mem_cons.1 a1 with e | a1
      · exact e
      · rcases List.mem_cons.1 a2 with e | a2
        · exact e.symm
        · have := h1.1 y a2
          have := h2.1 x a1
          omega
    subst hxy
    congr 1
    refine asc_ext h1.2 h2.2 fun z => ?_
    have hz := h z
    constructor
    · intro hzl
      have h3 := h1.1 z hzl
      rcases List.mem_cons.1 (hz.1 (by simp [hzl])) with e | h4
      · omega
      · exact h4
    · intro hzm
      have h3 := h2.1 z hzm
      rcases List.mem_cons.1 (hz.2 (by simp [hzm])) with e | h4
      · omega
      · exact h4

theorem compactUpTo_inv (d : Array Int) (hs : ∀ i j, i ≤ j → j < d.size → d[i]! ≤ d[j]!) : ∀ m, m ≤ d.size →
    Asc (Lib.compactUpTo d m) ∧ (∀ y ∈ Lib.compactUpTo d m, ∃ i, i < m ∧ y = d[i]!) ∧ (∀ i, i < m → d[i]! ∈ Lib.compactUpTo d m)
  | 0, _ => by simp [Lib.compactUpTo, Asc]
  | m + 1, hm => by
    obtain ⟨h1, h2, h3⟩ := compactUpTo_inv d hs m (by omega)
    rw [Lib.compactUpTo_succ]
    by_cases hk : Lib.keeps d m = true
    · rw [if_pos hk]
      refine ⟨List.pairwise_append.2 ⟨h1, by simp, fun y hy z hz => ?_⟩, fun y hy => ?_, fun i hi => ?_⟩
      · have e : z = d[m]! := by simpa using hz
        subst e
        obtain ⟨i, hi, rfl⟩ := h2 y hy
        have hk' : m = 0 ∨ d[m]! ≠ d[m - 1]! := by simpa [Lib.keeps] using hk
        rcases hk' with e | hne
        · omega
        · have b1 := hs i (m - 1) (by omega) (by omega)
          have b2 := hs (m - 1) m (by omega) (by omega)
          omega
      · rcases List.mem_append.1 hy with hy | hy
        · obtain ⟨i, hi, e⟩ := h2 y hy
          exact ⟨i, by omega, e⟩
        · exact ⟨m, by omega, by simpa using hy⟩
      · by_cases e : i = m
        · subst e; simp
        · exact List.mem_append.2 (Or.inl (h3 i (by omega)))
    · rw [if_neg hk, List.append_nil]
      refine ⟨h1, fun y hy => ?_, fun i hi => ?_⟩
      · obtain ⟨i, hi, e⟩ := h2 y hy
        exact ⟨i, by omega, e⟩
      · by_cases e : i = m
        · subst e
          have hk' : i ≠ 0 ∧ d[i]! = d[i - 1]! := by
            have : ¬ (i = 0 ∨ d[i]! ≠ d[i - 1]!) := by simpa [Lib.keeps] using hk
            omega
          rw [hk'.2]
          exact h3 (i - 1) (by omega)
        · exact h3 i (by omega)
def sorted (zs : List Int) : List Int := zs.mergeSort fun x y => decide (x ≤ y)
theorem sorted_len (zs : List Int) : (sorted zs).length = zs.length := List.length_mergeSort zs
theorem sorted_le (zs : List Int) : ∀ i j, i ≤ j → j < (sorted zs).toArray.size → (sorted zs).toArray[i]! ≤ (sorted zs).toArray[j]! := by
  intro i j hij hj
  have hp : (sorted zs).Pairwise (fun a b => decide (a ≤ b) = true) := List.pairwise_mergeSort (fun a b c h1 h2 => by simp at *; omega) (fun a b => by simp; omega) zs
  have hj' : j < (sorted zs).length := by simpa using hj
  rcases Nat.lt_or_eq_of_le hij with h | e
  · have := List.pairwise_iff_getElem.1 hp i j (by omega) hj' h
    rw [getElem!_pos _ i (by simpa using by omega), getElem!_pos _ j (by simpa using hj')]
    simpa using this
  · subst e; exact Int.le_refl _
theorem compact_sorted (zs : List Int) : Asc (Lib.compact (sorted zs)) ∧ ∀ y, y ∈ Lib.compact (sorted zs) ↔ y ∈ zs := by
  have h := compactUpTo_inv (sorted zs).toArray (sorted_le zs) (sorted zs).length (by simp)
  refine ⟨h.1, fun y => ⟨fun hy => ?_, fun hy => ?_⟩⟩
  · obtain ⟨i, hi, rfl⟩ := h.2.1 y hy
    rw [getElem!_pos _ i (by simpa using hi)]
    have : (sorted zs).toArray[i]'(by simpa using hi) ∈ sorted zs := by simp
    exact List.mem_mergeSort.1 this
  · have hm : y ∈ sorted zs := List.mem_mergeSort.2 hy
    obtain ⟨i, hi, e⟩ := List.getElem_of_mem hm
    have := h.2.2 i hi
    rw [getElem!_pos _ i (by simpa using hi)] at this
    show y ∈ Lib.compactUpTo (sorted zs).toArray (sorted zs).length
    simpa [e] using this
/-- All numbers put in, one after the other. -/
def puts : List Int → List Int → List Int
  | acc, [] => acc
  | acc, x :: t => puts (putL acc x) t
theorem puts_app (acc l : List Int) (x : Int) : puts acc (l ++ [x]) = putL (puts acc l) x := by
  induction l generalizing acc with
  | nil => rfl
  | cons y t ih => exact ih (putL acc y)
theorem puts_asc {l : List Int} : ∀ {acc : List Int}, Asc acc → Asc (puts acc l) ∧ ∀ y, y ∈ puts acc l ↔ y ∈ acc ∨ y ∈ l := by
  induction l with
  | nil => intro acc h; exact ⟨h, fun y => by simp [puts]⟩
  | cons x t ih =>
    intro acc h
    obtain ⟨h1, h2⟩ := ih (asc_putL (n := x) h)
    refine ⟨h1, fun y => ?_⟩
    show y ∈ puts (putL acc x) t ↔ _
    rw [h2 y, mem_putL, List.mem_cons]
    constructor
    · rintro ((h | h) | h)
      · exact Or.inr (Or.inl h)
      · exact Or.inl h
      · exact Or.inr (Or.inr h)
    · rintro (h | h | h)
      · exact Or.inl (Or.inr h)
      · exact Or.inl (Or.inl h)
      · exact Or.inr h
theorem puts_len : ∀ (l acc : List Int), (puts acc l).length ≤ acc.length + l.length
  | [], acc => by simp [puts]
  | x :: t, acc => by
    have h1 := puts_len t (putL acc x)
    have h2 := putL_len x acc
    show (puts (putL acc x) t).length ≤ _
    simp only [List.length_cons]
    omega
theorem puts_eq (zs : List Int) : puts [] zs = Lib.compact (sorted zs) := by
  have h1 := puts_asc (l := zs) (acc := []) (by simp [Asc])
  have h2 := compact_sorted zs
  exact asc_ext h1.1 h2.1 fun y => by rw [h1.2 y, h2.2 y]; simp
theorem compact_len (zs : List Int) : (Lib.compact (sorted zs)).length ≤ zs.length := by
  rw [← puts_eq]
  have := puts_len zs []
  simpa using this
end Go.Proofs.YtcmjadfpifpknaaGreat
namespace Go.Proofs.YtcmjadfpifpknaaGreat
open Go.ChangeShapes Go.WideShapes Go.ChangeAt Go.RowKit
set_option linter.unusedVariables false
set_option linter.unusedSimpArgs false

/-- The versions of a word. -/
def lw (w : Nat) : List Int := ([1, 2, 3, 4, 5, 6, 7, 8, 9] : List Int).filter fun v => w.testBit (v.toNat - 1)
theorem lw_mem {w : Nat} {x : Int} : x ∈ lw w ↔ (1 ≤ x ∧ x ≤ 9) ∧ w.testBit (x.toNat - 1) = true := by
  unfold lw
  rw [List.mem_filter]
  have : x ∈ ([1, 2, 3, 4, 5, 6, 7, 8, 9] : List Int) ↔ 1 ≤ x ∧ x ≤ 9 := by simp; omega
  rw [this]
/-- The word of a list, from the word of what stands ahead of it; 0 if it is no list of versions. -/
def voW : List Int → Nat → Nat
  | [], w => w
  | v :: t, w => if (1 ≤ v ∧ v ≤ 9) ∧ w < 2 ^ (v.toNat - 1) then voW t (w ||| 2 ^ (v.toNat - 1)) else 0
def word (l : List Int) : Nat := voW l 0
theorem t_or : ∀ w : Fin 512, ∀ j : Fin 9, bits .or .u16 (w.val : Int) ((2 ^ j.val : Nat) : Int) = ((w.val ||| 2 ^ j.val : Nat) : Int) ∧ (w.val ||| 2 ^ j.val) < 512 := by decide +kernel
theorem t_has : ∀ w : Fin 512, ∀ j : Fin 9, (bits .and .u16 (w.val : Int) ((2 ^ j.val : Nat) : Int) != 0) = w.val.testBit j.val := by decide +kernel
theorem t_drop : ∀ w : Fin 512, ∀ j : Fin 9, bits .andNot .u16 (w.val : Int) ((2 ^ j.val : Nat) : Int) = ((w.val &&& (511 ^^^ 2 ^ j.val) : Nat) : Int) := by decide +kernel
theorem t_new : ∀ w : Fin 512, ∀ j : Fin 9, w.val < 2 ^ j.val → lw (w.val ||| 2 ^ j.val) = lw w.val ++ [(j.val : Int) + 1] := by decide +kernel
theorem t_last : ∀ w : Fin 512, ∀ j : Fin 9, w.val ≠ 0 → ((lw w.val).getLastD 0 < (j.val : Int) + 1 ↔ w.val < 2 ^ j.val) := by decide +kernel
theorem t_great : ∀ w : Fin 512, (lw w.val).getLastD 0 = (Lib.bitLen w.val : Int) ∧ (lw w.val = [] ↔ w.val = 0) ∧ (lw w.val).all (fun x => decide (x ≤ (Lib.bitLen w.val : Int))) = true ∧ Lib.bitLen w.val ≤ 9 ∧ (Lib.bitLen w.val = 0 ↔ w.val = 0) := by decide +kernel
theorem t_word : ∀ w : Fin 512, word (lw w.val) = w.val := by decide +kernel
theorem t_put : ∀ w : Fin 512, ∀ j : Fin 9, putL (lw w.val) ((j.val : Int) + 1) = lw (w.val ||| 2 ^ j.val) := by decide +kernel
theorem t_without : ∀ w : Fin 512, ∀ j : Fin 9, (lw w.val).filter (fun x => decide (x ≠ (j.val : Int) + 1)) = lw (w.val &&& (511 ^^^ 2 ^ j.val)) := by decide +kernel
theorem t_single : ∀ w : Fin 512, ∀ j : Fin 9, w.val.testBit j.val = true → (w.val = 2 ^ j.val ↔ (lw w.val).length = 1) := by decide +kernel
theorem t_back : ∀ w : Fin 512, ∀ j : Fin 9, w.val ≠ 0 → w.val.testBit j.val = false → ((w.val ||| 2 ^ j.val) &&& (511 ^^^ 2 ^ j.val)) = w.val ∧ (w.val ||| 2 ^ j.val).testBit j.val = true ∧ (w.val ||| 2 ^ j.val) ≠ 2 ^ j.val := by decide +kernel
/-- The runs of a list: what begins one, in its first j elements. -/
def spnTo (l : List Int) : Nat → Nat
  | 0 => 0
  | j + 1 => spnTo l j + (if j = 0 ∨ l.getD (j - 1) 0 + 1 ≠ l.getD j 0 then 1 else 0)
def spn (l : List Int) : Nat := spnTo l l.length
/-- The bits of a word whose predecessor is not there. -/
def firstBits (w : Nat) : Nat := w &&& (1023 ^^^ (2 * w))
theorem t_first : ∀ w : Fin 512, bits .andNot .u16 (w.val : Int) ((2 * w.val : Nat) : Int) = ((firstBits w.val : Nat) : Int) ∧ firstBits w.val < 512 := by decide +kernel
def pop16 (x : Nat) : Nat := Lib.onesCount (x / 256) + Lib.onesCount (x % 256)
theorem t_span : ∀ w : Fin 512, spn (lw w.val) = pop16 (firstBits w.val) := by decide +kernel
theorem t_spans : ∀ w : Fin 512, ∀ j : Fin 9, spn (lw (w.val ||| 2 ^ j.val)) ≤ spn (lw w.val) + 1 := by decide +kernel
theorem t_pop : ∀ x : Fin 256, Lib.onesCount x.val ≤ 8 := by decide +kernel
/-- The first j versions of a word. -/
def lwTo (w j : Nat) : List Int := (([1, 2, 3, 4, 5, 6, 7, 8, 9] : List Int).take j).filter fun v => w.testBit (v.toNat - 1)
theorem t_lwTo : ∀ w : Fin 512, lwTo w.val (Lib.bitLen w.val) = lw w.val ∧ lwTo w.val 0 = [] := by decide +kernel
theorem t_step : ∀ w : Fin 512, ∀ j : Fin 9, lwTo w.val (j.val + 1) = if w.val.testBit j.val = true then lwTo w.val j.val ++ [(j.val : Int) + 1] else lwTo w.val j.val := by decide +kernel

theorem bit_lt {v : Int} (h : 1 ≤ v ∧ v ≤ 9) : v.toNat - 1 < 9 := by omega
theorem bit_val {v : Int} (h : 1 ≤ v ∧ v ≤ 9) : ((v.toNat - 1 : Nat) : Int) + 1 = v := by omega
theorem word_or {w : Nat} (hw : w < 512) {v : Int} (h : 1 ≤ v ∧ v ≤ 9) : bits .or .u16 (w : Int) ((2 ^ (v.toNat - 1) : Nat) : Int) = ((w ||| 2 ^ (v.toNat - 1) : Nat) : Int) := (t_or ⟨w, hw⟩ ⟨v.toNat - 1, bit_lt h⟩).1
theorem or_lt {w : Nat} (hw : w < 512) {v : Int} (h : 1 ≤ v ∧ v ≤ 9) : (w ||| 2 ^ (v.toNat - 1)) < 512 := (t_or ⟨w, hw⟩ ⟨v.toNat - 1, bit_lt h⟩).2
theorem word_has {w : Nat} (hw : w < 512) {v : Int} (h : 1 ≤ v ∧ v ≤ 9) : (bits .and .u16 (w : Int) ((2 ^ (v.toNat - 1) : Nat) : Int) != 0) = decide (v ∈ lw w) := by
  rw [show (bits .and .u16 (w : Int) ((2 ^ (v.toNat - 1) : Nat) : Int) != 0) = w.testBit (v.toNat - 1) from t_has ⟨w, hw⟩ ⟨v.toNat - 1, bit_lt h⟩]
  have e : v ∈ lw w ↔ w.testBit (v.toNat - 1) = true := by rw [lw_mem]; exact ⟨fun q => q.2, fun q => ⟨h, q⟩⟩
  by_cases q : v ∈ lw w
  · rw [decide_eq_true q]; exact e.1 q
  · rw [decide_eq_false q]
    cases r : w.testBit (v.toNat - 1) with
    | false => rfl
    | true => exact absurd (e.2 r) q
theorem word_drop {w : Nat} (hw : w < 512) {v : Int} (h : 1 ≤ v ∧ v ≤ 9) : bits .andNot .u16 (w : Int) ((2 ^ (v.toNat - 1) : Nat) : Int) = ((w &&& (511 ^^^ 2 ^ (v.toNat - 1)) : Nat) : Int) := t_drop ⟨w, hw⟩ ⟨v.toNat - 1, bit_lt h⟩
theorem drop_lt {w : Nat} (hw : w < 512) (x : Nat) : (w &&& x) < 512 := Nat.lt_of_le_of_lt Nat.and_le_left hw
theorem word_and {a b : Nat} (ha : a < 512) (hb : b < 512) : bits .and .u16 (a : Int) (b : Int) = ((a &&& b : Nat) : Int) :=
  (bits_nat .u16 9 (by decide) (fun n h0 h1 => by
    have h2 : n < 512 := h1
    simp [IntKind.wrap, IntKind.bits, IntKind.signed]
    omega) a b ha hb).1

theorem voW_spec : ∀ (l : List Int) (w : Nat), w < 512 → voW l w < 512 ∧ (voW l w ≠ 0 → lw (voW l w) = lw w ++ l)
  | [], w, hw => ⟨hw, fun _ => by rw [voW, List.append_nil]⟩
  | v :: t, w, hw => by
    rw [voW]
    by_cases h : (1 ≤ v ∧ v ≤ 9) ∧ w < 2 ^ (v.toNat - 1)
    · rw [if_pos h]
      have h1 := voW_spec t _ (or_lt hw h.1)
      refine ⟨h1.1, fun q => ?_⟩
      have e : lw (w ||| 2 ^ (v.toNat - 1)) = lw w ++ [((v.toNat - 1 : Nat) : Int) + 1] := t_new ⟨w, hw⟩ ⟨v.toNat - 1, bit_lt h.1⟩ h.2
      rw [h1.2 q, e, bit_val h.1, List.append_assoc]
      rfl
    · rw [if_neg h]
      exact ⟨by omega, fun q => absurd rfl q⟩
theorem word_lt (l : List Int) : word l < 512 := (voW_spec l 0 (by omega)).1
theorem lw_word {l : List Int} (h : word l ≠ 0) : lw (word l) = l := by
  have := (voW_spec l 0 (by omega)).2 h
  rw [show lw 0 = [] by decide, List.nil_append] at this
  exact this
theorem word_of {w : Nat} (hw : w < 512) : word (lw w) = w := t_word ⟨w, hw⟩
theorem voW_yes {v : Int} {t : List Int} {w : Nat} (h : (1 ≤ v ∧ v ≤ 9) ∧ w < 2 ^ (v.toNat - 1)) : voW (v :: t) w = voW t (w ||| 2 ^ (v.toNat - 1)) := by rw [voW, if_pos h]
theorem voW_no {v : Int} {t : List Int} {w : Nat} (h : ¬ ((1 ≤ v ∧ v ≤ 9) ∧ w < 2 ^ (v.toNat - 1))) : voW (v :: t) w = 0 := by rw [voW, if_neg h]
theorem or_pos {w : Nat} {j : Nat} : (w ||| 2 ^ j) ≠ 0 := by
  intro h
  have := Nat.or_eq_zero_iff.1 h
  have := Nat.two_pow_pos j
  omega
/-- A list of versions. -/
def areV (l : List Int) : Bool := decide (word l ≠ 0)
theorem areV_yes {l : List Int} (h : word l ≠ 0) : areV l = true := decide_eq_true h
theorem areV_no {l : List Int} (h : word l = 0) : areV l = false := decide_eq_false (fun q => q h)
/-- What two lists have in common, in the first one's order. -/
def common (a b : List Int) : List Int := a.filter fun x => decide (x ∈ b)
theorem common_nil (b : List Int) : common [] b = [] := rfl
theorem common_yes {a b : List Int} {j : Nat} {x : Int} (hx : a[j]? = some x) (h : x ∈ b) : common (a.take (j + 1)) b = common (a.take j) b ++ [x] := by
  rw [List.take_add_one, hx]; simp [common, h]
theorem common_no {a b : List Int} {j : Nat} {x : Int} (hx : a[j]? = some x) (h : ¬ x ∈ b) : common (a.take (j + 1)) b = common (a.take j) b := by
  rw [List.take_add_one, hx]; simp [common, h]
theorem common_few (a b : List Int) : (common a b).length ≤ a.length := List.length_filter_le _ _
theorem common_lw {a b : List Int} (ha : word a ≠ 0) (hb : word b ≠ 0) : common a b = lw (word a &&& word b) := by
  conv => lhs; rw [← lw_word ha, ← lw_word hb]
  unfold common
  conv => lhs; unfold lw
  unfold lw
  rw [List.filter_filter]
  refine List.filter_congr fun x hx => ?_
  have hr : 1 ≤ x ∧ x ≤ 9 := by simp at hx; omega
  have e : x ∈ lw (word b) ↔ (word b).testBit (x.toNat - 1) = true := by rw [lw_mem]; exact ⟨fun q => q.2, fun q => ⟨hr, q⟩⟩
  rw [Nat.testBit_and]
  unfold lw at e
  cases q : (word b).testBit (x.toNat - 1) with
  | false => rw [q] at e; rw [decide_eq_false (fun h => by cases e.1 h)]; simp
  | true => rw [decide_eq_true (e.2 q)]; simp
/-- The greatest common version. -/
def best (a b : List Int) : Nat := Lib.bitLen (word a &&& word b)
theorem best_comm (a b : List Int) : best a b = best b a := by unfold best; rw [Nat.and_comm]
theorem and_w (a b : List Int) : (word a &&& word b) < 512 := drop_lt (word_lt a) _
theorem best_le (a b : List Int) : best a b ≤ 9 := (t_great ⟨_, and_w a b⟩).2.2.2.1
theorem best_zero {a b : List Int} : best a b = 0 ↔ (word a &&& word b) = 0 := (t_great ⟨_, and_w a b⟩).2.2.2.2
theorem best_off {a b : List Int} (h : word a = 0 ∨ word b = 0) : best a b = 0 := by
  rw [best_zero]
  rcases h with h | h <;> rw [h] <;> simp
theorem best_last {a b : List Int} (ha : word a ≠ 0) (hb : word b ≠ 0) : (common a b).getLastD 0 = (best a b : Int) := by
  rw [common_lw ha hb]
  exact (t_great ⟨_, and_w a b⟩).1
theorem best_none {a b : List Int} (ha : word a ≠ 0) (hb : word b ≠ 0) : common a b = [] ↔ best a b = 0 := by
  rw [common_lw ha hb, best_zero]
  exact (t_great ⟨_, and_w a b⟩).2.1
theorem best_most {a b : List Int} (ha : word a ≠ 0) (hb : word b ≠ 0) {x : Int} (hx : x ∈ common a b) : x ≤ (best a b : Int) := by
  rw [common_lw ha hb] at hx
  have := (t_great ⟨_, and_w a b⟩).2.2.1
  rw [List.all_eq_true] at this
  exact of_decide_eq_true (this x hx)
theorem last_mem : ∀ {l : List Int}, l ≠ [] → l.getLastD 0 ∈ l
  | [], h => absurd rfl h
  | x :: t, _ => by
    rw [List.getLastD_cons]
    cases t with
    | nil => simp
    | cons y s => 
      have := last_mem (l := y :: s) (by simp)
      rw [List.getLastD_cons] at this ⊢
      exact List.mem_cons_of_mem _ this
theorem best_in {a b : List Int} (h : best a b ≠ 0) : (best a b : Int) ∈ a ∧ (best a b : Int) ∈ b := by
  have ha : word a ≠ 0 := fun q => h (best_off (.inl q))
  have hb : word b ≠ 0 := fun q => h (best_off (.inr q))
  have hm : (common a b).getLastD 0 ∈ common a b := last_mem (fun q => h ((best_none ha hb).1 q))
  rw [best_last ha hb] at hm
  unfold common at hm
  rw [List.mem_filter] at hm
  exact ⟨hm.1, of_decide_eq_true hm.2⟩
theorem best_self {a : List Int} (ha : word a ≠ 0) : (best a a : Int) = a.getLastD 0 := by
  have := (t_great ⟨_, word_lt a⟩).1
  unfold best
  rw [Nat.and_self, ← this]
  show (lw (word a)).getLastD 0 = _
  rw [lw_word ha]
theorem best_one {a b : List Int} : best a b ≠ 0 ↔ ((common a b ≠ [] ∧ word a ≠ 0) ∧ word b ≠ 0) := by
  constructor
  · intro h
    have ha : word a ≠ 0 := fun q => h (best_off (.inl q))
    have hb : word b ≠ 0 := fun q => h (best_off (.inr q))
    exact ⟨⟨fun q => h ((best_none ha hb).1 q), ha⟩, hb⟩
  · rintro ⟨⟨hc, ha⟩, hb⟩ q
    exact hc ((best_none ha hb).2 q)

/-- A version added. -/
def addsV (l : List Int) (v : Int) : Bool := decide (word l ≠ 0 ∧ (1 ≤ v ∧ v ≤ 9) ∧ ¬ v ∈ l)
def addV (l : List Int) (v : Int) : List Int := if addsV l v = true then lw (word l ||| 2 ^ (v.toNat - 1)) else l
theorem addV_yes {l : List Int} {v : Int} (h0 : word l ≠ 0) (h : 1 ≤ v ∧ v ≤ 9) (hm : ¬ v ∈ l) : addsV l v = true ∧ addV l v = lw (word l ||| 2 ^ (v.toNat - 1)) := by
  have : addsV l v = true := decide_eq_true ⟨h0, h, hm⟩
  exact ⟨this, if_pos this⟩
theorem addV_no {l : List Int} {v : Int} (h : ¬ (word l ≠ 0 ∧ (1 ≤ v ∧ v ≤ 9) ∧ ¬ v ∈ l)) : addsV l v = false ∧ addV l v = l := by
  have : addsV l v = false := decide_eq_false h
  exact ⟨this, if_neg (by rw [this]; simp)⟩
theorem addV_put {l : List Int} {v : Int} (h0 : word l ≠ 0) (h : 1 ≤ v ∧ v ≤ 9) : putL l v = lw (word l ||| 2 ^ (v.toNat - 1)) := by
  have := t_put ⟨_, word_lt l⟩ ⟨v.toNat - 1, bit_lt h⟩
  dsimp only at this
  rw [lw_word h0, bit_val h] at this
  exact this
/-- A version taken away. -/
def dropsV (l : List Int) (v : Int) : Bool := decide (word l ≠ 0 ∧ v ∈ l ∧ l.length ≠ 1)
def dropV (l : List Int) (v : Int) : List Int := if dropsV l v = true then lw (word l &&& (511 ^^^ 2 ^ (v.toNat - 1))) else l
theorem dropV_yes {l : List Int} {v : Int} (h0 : word l ≠ 0) (hm : v ∈ l) (h : l.length ≠ 1) : dropsV l v = true ∧ dropV l v = lw (word l &&& (511 ^^^ 2 ^ (v.toNat - 1))) := by
  have : dropsV l v = true := decide_eq_true ⟨h0, hm, h⟩
  exact ⟨this, if_pos this⟩
theorem dropV_no {l : List Int} {v : Int} (h : ¬ (word l ≠ 0 ∧ v ∈ l ∧ l.length ≠ 1)) : dropsV l v = false ∧ dropV l v = l := by
  have : dropsV l v = false := decide_eq_false h
  exact ⟨this, if_neg (by rw [this]; simp)⟩
theorem in_range {l : List Int} {v : Int} (h0 : word l ≠ 0) (hm : v ∈ l) : 1 ≤ v ∧ v ≤ 9 := by
  rw [← lw_word h0] at hm
  exact (lw_mem.1 hm).1
def without (l : List Int) (v : Int) : List Int := l.filter fun x => decide (x ≠ v)
theorem dropV_without {l : List Int} {v : Int} (h0 : word l ≠ 0) (hm : v ∈ l) : without l v = lw (word l &&& (511 ^^^ 2 ^ (v.toNat - 1))) := by
  have h := in_range h0 hm
  have := t_without ⟨_, word_lt l⟩ ⟨v.toNat - 1, bit_lt h⟩
  dsimp only at this
  rw [lw_word h0, bit_val h] at this
  exact this
theorem word_single {l : List Int} {v : Int} (h0 : word l ≠ 0) (hm : v ∈ l) : word l = 2 ^ (v.toNat - 1) ↔ l.length = 1 := by
  have h := in_range h0 hm
  have hb : (word l).testBit (v.toNat - 1) = true := by
    have := hm
    rw [← lw_word h0] at this
    exact (lw_mem.1 this).2
  have := t_single ⟨_, word_lt l⟩ ⟨v.toNat - 1, bit_lt h⟩ hb
  dsimp only at this
  rw [lw_word h0] at this
  exact this
theorem without_yes {l : List Int} {j : Nat} {x v : Int} (hx : l[j]? = some x) (h : x ≠ v) : without (l.take (j + 1)) v = without (l.take j) v ++ [x] := by
  rw [List.take_add_one, hx]; simp [without, h]
theorem without_no {l : List Int} {j : Nat} {x v : Int} (hx : l[j]? = some x) (h : x = v) : without (l.take (j + 1)) v = without (l.take j) v := by
  rw [List.take_add_one, hx]; simp [without, h]
theorem without_few (l : List Int) (v : Int) : (without l v).length ≤ l.length := List.length_filter_le _ _
/-- What is added and taken away again. -/
theorem add_drop {l : List Int} {v : Int} (h : addsV l v = true) : word (addV l v) ≠ 0 ∧ dropsV (addV l v) v = true ∧ dropV (addV l v) v = l ∧ spn (addV l v) ≤ spn l + 1 := by
  obtain ⟨h0, hr, hm⟩ := of_decide_eq_true h
  have hb : (word l).testBit (v.toNat - 1) = false := by
    cases q : (word l).testBit (v.toNat - 1) with
    | false => rfl
    | true =>
      have : v ∈ lw (word l) := lw_mem.2 ⟨hr, q⟩
      rw [lw_word h0] at this
      exact absurd this hm
  have hk : (word l ||| 2 ^ (v.toNat - 1)) < 512 := or_lt (word_lt l) hr
  obtain ⟨b1, b2, b3⟩ := t_back ⟨_, word_lt l⟩ ⟨v.toNat - 1, bit_lt hr⟩ h0 hb
  dsimp only at b1 b2 b3
  have ea := (addV_yes h0 hr hm).2
  have ew : word (addV l v) = (word l ||| 2 ^ (v.toNat - 1)) := by rw [ea, word_of hk]
  have hw : word (addV l v) ≠ 0 := by rw [ew]; exact or_pos
  have hv : v ∈ addV l v := by rw [ea]; exact lw_mem.2 ⟨hr, b2⟩
  have hl : (addV l v).length ≠ 1 := fun q => b3 (by rw [← ew]; exact (word_single hw hv).2 q)
  refine ⟨hw, (dropV_yes hw hv hl).1, ?_, ?_⟩
  · rw [(dropV_yes hw hv hl).2, ew, b1, lw_word h0]
  · have := t_spans ⟨_, word_lt l⟩ ⟨v.toNat - 1, bit_lt hr⟩
    dsimp only at this
    rw [lw_word h0] at this
    rw [ea]
    exact this
/-- The runs of a list of versions; 0 where it is none. -/
def spans (l : List Int) : Nat := if areV l = true then spn l else 0
theorem spans_bits (l : List Int) : spans l = pop16 (firstBits (word l)) := by
  unfold spans
  by_cases h : word l = 0
  · rw [if_neg (by rw [areV_no h]; simp), h]
    decide
  · rw [if_pos (areV_yes h)]
    have := t_span ⟨_, word_lt l⟩
    dsimp only at this
    rw [lw_word h] at this
    exact this
theorem spn_le (l : List Int) : ∀ j, spnTo l j ≤ j
  | 0 => Nat.le_refl _
  | j + 1 => by
    have := spn_le l j
    rw [spnTo]
    split <;> omega
/-- A list of versions has nine elements at most. -/
theorem lw_len (w : Nat) : (lw w).length ≤ 9 := List.length_filter_le _ _
theorem areV_len {l : List Int} (h : word l ≠ 0) : l.length ≤ 9 ∧ 0 < l.length := by
  refine ⟨by rw [← lw_word h]; exact lw_len _, ?_⟩
  rcases Nat.eq_zero_or_pos l.length with q | q
  · rw [List.eq_nil_of_length_eq_zero q] at h
    exact absurd rfl h
  · exact q
/-- The model's test of one element after the other. -/
theorem voW_step {l : List Int} {j : Nat} {x : Int} (hx : l[j]? = some x) {w : Nat} : voW (l.drop j) w = voW (x :: l.drop (j + 1)) w := by
  have hj : j < l.length := (List.getElem?_eq_some_iff.1 hx).1
  rw [List.drop_eq_getElem_cons hj]
  rw [List.getElem?_eq_getElem hj] at hx
  injection hx with hx
  rw [hx]
theorem take_lw {l : List Int} {j : Nat} {x : Int} (hx : l[j]? = some x) {w : Nat} (hw : w < 512) (h : (1 ≤ x ∧ x ≤ 9) ∧ w < 2 ^ (x.toNat - 1)) (ht : l.take j = lw w) : l.take (j + 1) = lw (w ||| 2 ^ (x.toNat - 1)) := by
  have e : lw (w ||| 2 ^ (x.toNat - 1)) = lw w ++ [((x.toNat - 1 : Nat) : Int) + 1] := t_new ⟨w, hw⟩ ⟨x.toNat - 1, bit_lt h.1⟩ h.2
  rw [List.take_add_one, hx, e, bit_val h.1, ht]
  rfl
theorem lw_zero {w : Nat} (hw : w < 512) : lw w = [] ↔ w = 0 := (t_great ⟨w, hw⟩).2.1
theorem take_last {l : List Int} {j : Nat} {x y : Int} (hy : l[j]? = some y) {w : Nat} (hw : w < 512) (hx : 1 ≤ x ∧ x ≤ 9) (ht : l.take (j + 1) = lw w) : y < x ↔ w < 2 ^ (x.toNat - 1) := by
  have h0 : w ≠ 0 := fun q => by
    have : l.take (j + 1) = [] := by rw [ht]; exact (lw_zero hw).2 q
    rw [List.take_add_one, hy] at this
    simp at this
  have := t_last ⟨w, hw⟩ ⟨x.toNat - 1, bit_lt hx⟩ h0
  dsimp only at this
  rw [bit_val hx, ← ht, List.take_add_one, hy] at this
  simpa using this
theorem drop_all (l : List Int) {w : Nat} : voW (l.drop l.length) w = w := by rw [List.drop_length]; rfl
end Go.Proofs.YtcmjadfpifpknaaGreat
