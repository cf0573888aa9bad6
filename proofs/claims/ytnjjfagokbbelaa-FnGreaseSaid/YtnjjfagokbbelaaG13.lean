/- Reserved values in motion, as mathematics: which tag a seed inserts, with which bytes and where; what stays when reserved tags are taken away. The reserved tag that a seed picks: by the program and by the model. A list of extensions copied, by the program. An extension between others: the cells of a list with one inserted, what each owns; whole elements copied into a block that is known. An extension inserted into a new list, by the program. -/
import Derived.Test.YtnjjfagokbbelaaG9
import Derived.Test.YtnjjfagokbbelaaG11
import Derived.Test.YtnjjfagokbbelaaG12
import Derived.Laws.CopyOwn
import Derived.Shelf.Spec.SlicesInsert
namespace Go.Proofs.Ytnjjfagokbbelaa
set_option linter.unusedVariables false

def tagG (s : Int) : Int := 16 * pickOf s 0 16 + 10
def sizeG (s : Int) : Nat := (pickOf s 2 3).toNat
def bodyG (s : Int) : List Int := List.replicate (sizeG s) (pickOf s 3 256)
def placeG (l : List Vl) (s : Int) : Nat := (pickOf s 1 (l.length + 1 : Nat)).toNat
/-- Whether a seed inserts an extension. -/
def wantG (l : List Vl) (s : Int) : Bool := areX l && decide (l.length < 6) && decide (¬ tagG s ∈ tagsX l)
def addX (l : List Vl) (s : Int) : List Vl := if wantG l s then l.take (placeG l s) ++ ⟨tagG s, bodyG s⟩ :: l.drop (placeG l s) else l
def strX (l : List Vl) : List Vl := whX (fun t => !resv t) l
def hasG (l : List Vl) : Bool := (tagsX l).any resv
theorem tagG_bd (s : Int) : 0 ≤ pickOf s 0 16 ∧ pickOf s 0 16 ≤ 15 := by
  have h := pickOf_bd s 0 16
  have := h.2.2 (by omega)
  omega
theorem tagG_resv (s : Int) : resv (tagG s) = true := by
  have h := tagG_bd s
  unfold resv tagG
  rw [Bool.and_eq_true]
  refine ⟨inB_iff.2 (by omega), ?_⟩
  rw [beq_iff_eq]
  omega
theorem tagG_in (s : Int) : 10 ≤ tagG s ∧ tagG s ≤ 250 := by
  have h := tagG_bd s
  unfold tagG
  omega
theorem sizeG_few (s : Int) : sizeG s ≤ 2 := by
  have h := pickOf_bd s 2 3
  have := h.2.2 (by omega)
  unfold sizeG
  omega
theorem bodyG_len (s : Int) : (bodyG s).length = sizeG s := by simp [bodyG]
theorem fillG_bd (s : Int) : 0 ≤ pickOf s 3 256 ∧ pickOf s 3 256 ≤ 255 := by
  have h := pickOf_bd s 3 256
  have := h.2.2 (by omega)
  omega
theorem placeG_le (l : List Vl) (s : Int) : placeG l s ≤ l.length := by
  have h := pickOf_bd s 1 (l.length + 1 : Nat)
  have := h.2.2 (by omega)
  unfold placeG
  omega
theorem placeG_int (l : List Vl) (s : Int) : ((placeG l s : Nat) : Int) = pickOf s 1 (l.length + 1 : Nat) := by
  have h := pickOf_bd s 1 (l.length + 1 : Nat)
  unfold placeG
  omega
theorem sizeG_int (s : Int) : ((sizeG s : Nat) : Int) = pickOf s 2 3 := by
  have h := pickOf_bd s 2 3
  unfold sizeG
  omega
theorem wantG_parts {l : List Vl} {s : Int} : wantG l s = true ↔ areX l = true ∧ l.length < 6 ∧ ¬ tagG s ∈ tagsX l := by
  unfold wantG
  rw [Bool.and_eq_true, Bool.and_eq_true, decide_eq_true_iff, decide_eq_true_iff]
  exact and_assoc
theorem okX_grease (s : Int) : okX ⟨tagG s, bodyG s⟩ = true := by
  have h := tagG_in s
  have h2 := sizeG_few s
  have h3 := fillG_bd s
  unfold okX
  rw [Bool.and_eq_true]
  refine ⟨decide_eq_true ⟨by dsimp only; omega, by dsimp only; omega⟩, ?_⟩
  have h4 := bodyG_len s
  unfold fitIts
  rw [Bool.and_eq_true]
  refine ⟨decide_eq_true (by dsimp only; omega), ?_⟩
  unfold allIn
  rw [List.all_eq_true]
  intro x hx
  have hx2 : x ∈ List.replicate (sizeG s) (pickOf s 3 256) := hx
  rw [List.eq_of_mem_replicate hx2]
  exact decide_eq_true (by omega)
theorem tags_insert (l : List Vl) (k : Nat) (x : Vl) : tagsX (l.take k ++ x :: l.drop k) = (tagsX l).take k ++ x.num :: (tagsX l).drop k := by simp [tagsX, List.map_take, List.map_drop]
theorem addX_are {l : List Vl} {s : Int} (h : areX l = true) : areX (addX l s) = true := by
  unfold addX
  split
  · rename_i hw
    obtain ⟨_, h1, h2⟩ := wantG_parts.1 hw
    obtain ⟨h3, h4, h5⟩ := areX_parts.1 h
    refine areX_parts.2 ⟨by have := placeG_le l s; simp; omega, ?_, ?_⟩
    · intro x hx
      rw [List.mem_append, List.mem_cons] at hx
      rcases hx with hx | rfl | hx
      · exact h4 x (List.mem_of_mem_take hx)
      · exact okX_grease s
      · exact h4 x (List.mem_of_mem_drop hx)
    · rw [tags_insert]
      refine (List.perm_middle.nodup_iff).2 ?_
      rw [List.take_append_drop, List.nodup_cons]
      exact ⟨h2, h5⟩
  · exact h
theorem wh_insert (f : Int → Bool) (l : List Vl) (k : Nat) (x : Vl) (h : f x.num = false) : whX f (l.take k ++ x :: l.drop k) = whX f l := by
  conv => rhs; rw [← List.take_append_drop k l]
  unfold whX
  rw [List.filter_append, List.filter_append, List.filter_cons, h]
  rfl
theorem wh_add (f : Int → Bool) (l : List Vl) (s : Int) (h : f (tagG s) = false) : whX f (addX l s) = whX f l := by
  unfold addX
  split
  · exact wh_insert f l _ _ h
  · rfl
theorem strX_add (l : List Vl) (s : Int) : strX (addX l s) = strX l := wh_add _ l s (by rw [tagG_resv]; rfl)
theorem known_add (l : List Vl) (s : Int) (ts : List Int) (h : ∀ t ∈ ts, resv t = false) : knownOf (addX l s) ts = knownOf l ts := by
  rw [knownOf_wh, knownOf_wh]
  refine wh_add _ l s (decide_eq_false fun hm => ?_)
  have := h _ hm
  rw [tagG_resv] at this
  cases this
theorem known_five (l : List Vl) (s : Int) : knownOf (addX l s) [1, 2, 3, 40, 200] = knownOf l [1, 2, 3, 40, 200] := known_add l s _ (by
  intro t ht
  simp at ht
  rcases ht with rfl | rfl | rfl | rfl | rfl <;> decide)
theorem add_tag {l : List Vl} {s : Int} (h : areX l = true) (h6 : l.length < 6) : tagG s ∈ tagsX (addX l s) := by
  by_cases hm : tagG s ∈ tagsX l
  · unfold addX
    split
    · rw [tags_insert, List.mem_append, List.mem_cons]
      exact Or.inr (Or.inl rfl)
    · exact hm
  · unfold addX
    rw [if_pos (wantG_parts.2 ⟨h, h6, hm⟩), tags_insert, List.mem_append, List.mem_cons]
    exact Or.inr (Or.inl rfl)
theorem strX_tags (l : List Vl) : tagsX (strX l) = (tagsX l).filter fun t => !resv t := by
  unfold tagsX strX whX
  rw [List.filter_map]
  rfl
theorem hasG_str (l : List Vl) : hasG (strX l) = false := by
  unfold hasG
  rw [strX_tags, List.any_eq_false]
  intro x hx
  have := (List.mem_filter.1 hx).2
  simpa using this
theorem strX_twice (l : List Vl) : strX (strX l) = strX l := by
  unfold strX whX
  rw [List.filter_filter]
  simp
theorem strX_few (l : List Vl) : (strX l).length ≤ l.length := wh_few _ l
theorem strX_count : ∀ l : List Vl, (strX l).length + (tagsX l).countP resv = l.length
  | [] => rfl
  | x :: t => by
    have ih : (t.filter fun x => !resv x.num).length + (t.map Vl.num).countP resv = t.length := strX_count t
    show ((x :: t).filter fun x => !resv x.num).length + ((x :: t).map Vl.num).countP resv = t.length + 1
    rw [List.filter_cons, List.map_cons, List.countP_cons]
    cases h : resv x.num
    · rw [if_pos (show (!false) = true from rfl), if_neg (by simp), List.length_cons]
      omega
    · rw [if_neg (by simp), if_pos rfl]
      omega
theorem strX_len (l : List Vl) : decide ((strX l).length < l.length) = hasG l := by
  unfold hasG
  have h : (strX l).length + ((tagsX l).countP resv) = l.length := by
    exact strX_count l
  cases e : (tagsX l).any resv with
  | true =>
    have : 0 < (tagsX l).countP resv := by
      rw [List.countP_pos_iff]
      simpa using e
    exact decide_eq_true (by omega)
  | false =>
    have : (tagsX l).countP resv = 0 := by
      rw [List.countP_eq_zero]
      intro x hx
      have := List.any_eq_false.1 e x hx
      exact this
    exact decide_eq_false (by omega)
theorem addX_len (l : List Vl) (s : Int) : (addX l s).length ≤ l.length + 1 := by
  unfold addX
  split
  · have := placeG_le l s
    simp
    omega
  · omega
theorem addX_items (l : List Vl) (s : Int) : itemsOf (addX l s) ≤ itemsOf l + 2 := by
  unfold addX
  split
  · have h2 := sizeG_few s
    have h3 : itemsOf (l.take (placeG l s)) + itemsOf (l.drop (placeG l s)) = itemsOf l := by
      conv => rhs; rw [← List.take_append_drop (placeG l s) l]
      unfold itemsOf
      rw [List.map_append, List.sum_append]
    have h4 : itemsOf (l.take (placeG l s) ++ ⟨tagG s, bodyG s⟩ :: l.drop (placeG l s)) = itemsOf (l.take (placeG l s)) + ((bodyG s).length + itemsOf (l.drop (placeG l s))) := by
      unfold itemsOf
      rw [List.map_append, List.sum_append, List.map_cons, List.sum_cons]
    rw [h4, bodyG_len]
    omega
  · omega
theorem addX_few {l : List Vl} {s : Int} (h : l.length + itemsOf l ≤ 1048576) : (addX l s).length + itemsOf (addX l s) ≤ 1048576 := by
  have h1 := addX_len l s
  have h2 := addX_items l s
  by_cases hw : wantG l s = true
  · have h3 := areX_few (wantG_parts.1 hw).1
    omega
  · have e : addX l s = l := by unfold addX; rw [if_neg hw]
    rw [e]
    exact h
theorem addX_mem {l : List Vl} {s t : Int} (h : t ∈ tagsX (addX l s)) : t ∈ tagsX l ∨ t = tagG s := by
  unfold addX at h
  split at h
  · rw [tags_insert, List.mem_append, List.mem_cons] at h
    rcases h with h | rfl | h
    · exact Or.inl (List.mem_of_mem_take h)
    · exact Or.inr rfl
    · exact Or.inl (List.mem_of_mem_drop h)
  · exact Or.inl h
theorem known_all (l : List Vl) : knownOf l (tagsX l) = l := by
  unfold knownOf
  rw [List.filter_eq_self]
  intro x hx
  exact decide_eq_true (List.mem_map_of_mem hx)
end Go.Proofs.Ytnjjfagokbbelaa
namespace Go.Proofs.Ytnjjfagokbbelaa
open Go.ChangeShapes Go.WideShapes Go.ChangeAt Go.RowKit
set_option linter.unusedVariables false

set_option maxRecDepth 100000 in
theorem greaseTag_any (s : Int) (hs : Fit64 s) (w : World) : Calls Try.prog 26 #[.int .i64 s] w (Told (.int .i64 (tagG s)) w) := by
  have HP := Lib.hid (pickOf_any s 0 16 w hs (fit_mk (by omega) (by omega)) (fit_mk (by omega) (by omega)))
  have hb := tagG_bd s
  have HE : Hid (tagG s = 16 * pickOf s 0 16 + 10) := Lib.hid rfl
  generalize tagG s = t at HE ⊢
  generalize pickOf s 0 16 = p at HE HP hb
  go_enter Try.func26, Try.ntmps26
  go_wp2_with fail
  refine HP.out.mono ?_
  rintro e w1 ⟨rfl, hb1⟩
  have HB := Lib.hid hb1
  clear hb1 HP
  have hw1 : IntKind.i64.wrap (16 * p) = 16 * p := by rw [IntKind.wrap_i64]; omega
  have hw2 : IntKind.i64.wrap (16 * p + 10) = 16 * p + 10 := by rw [IntKind.wrap_i64]; omega
  go_wp2_with fail
  go_ret
  exact ⟨by rw [HE.out]; rfl, HB.out⟩
set_option maxRecDepth 100000 in
theorem specGreaseTag_any (s : Int) (hs : Fit64 s) (w : World) : Calls Try.prog 42 #[.int .i64 s] w (Told (.int .i64 (tagG s)) w) := by
  have HP := Lib.hid (specPickOf_any s 0 16 w hs (fit_mk (by omega) (by omega)) (fit_mk (by omega) (by omega)))
  have hb := tagG_bd s
  have HE : Hid (tagG s = 16 * pickOf s 0 16 + 10) := Lib.hid rfl
  generalize tagG s = t at HE ⊢
  generalize pickOf s 0 16 = p at HE HP hb
  go_enter Try.func42, Try.ntmps42
  go_wp2_with fail
  refine HP.out.mono ?_
  rintro e w1 ⟨rfl, hb1⟩
  have HB := Lib.hid hb1
  clear hb1 HP
  have hw1 : IntKind.i64.wrap (16 * p) = 16 * p := by rw [IntKind.wrap_i64]; omega
  have hw2 : IntKind.i64.wrap (16 * p + 10) = 16 * p + 10 := by rw [IntKind.wrap_i64]; omega
  go_wp2_with fail
  go_ret
  exact ⟨by rw [HE.out]; rfl, HB.out⟩
end Go.Proofs.Ytnjjfagokbbelaa
namespace Go.Proofs.Ytnjjfagokbbelaa
open Go.ChangeShapes Go.WideShapes Go.ChangeAt Go.RowKit
set_option linter.unusedVariables false
set_option linter.unusedSimpArgs false

theorem OwnV.head {tO tI : TypeId} {w : World} {B n c : Nat} {a : Option Addr} {l : List Vl} (h : OwnV tO tI w B a n c l) (hn : 0 < n) : ∃ g, a = some ⟨g, 0, none⟩ ∧ B ≤ g ∧ g < w.heap.size := by
  obtain ⟨hs, h1, h2⟩ := h
  exact h1.head hn
set_option maxHeartbeats 4000000 in
set_option maxRecDepth 100000 in
theorem copyExts_any {a : Option Addr} {n c : Nat} {l : List Vl} {w : World} (h : Vals w a n l) (hn : n ≤ 1048576) (hit : itemsOf l ≤ 1048576) :
    Calls Try.prog 65 #[.slice a n c] w (fun e w' => ∃ g d, e = .returned (.slice (some ⟨g, 0, none⟩) n d) ∧ OwnV 57 3 w' w.heap.size (some ⟨g, 0, none⟩) n d l ∧ Below w.heap.size w w') := by
  have H := Lib.hid h
  have hln := Lib.hid h.len
  obtain ⟨i0, hi, hz0, hz1, hz2⟩ := info_parts infoExtS
  have HI := Lib.hid (And.intro hi (And.intro hz0 (And.intro hz1 hz2)))
  clear h hi hz0 hz1 hz2
  go_enter Try.func65, Try.ntmps65
  go_wp2_with (with_reducible refine wpList_make_own _ rfl (.const (.int .i64 0)) (.tmp 7) 24 rfl w.heap.size 57 i0 (.agg #[.int .i64 0, .slice none 0 0]) 2 Try.underlying24 HI.out.1 HI.out.2.1 HI.out.2.2.1 .i64 .i64 _ n rfl rfl rfl ?c1 ?c2 ?c3 ?_)
  case c1 => rw [HI.out.2.2.2]; omega
  case c2 => unfold maxLen; omega
  case c3 => exact Nat.le_refl _
  intro w1 hown hgrow
  have hb1 : Below w.heap.size w w1 := (Below.refl _ w).grown hgrow (Nat.le_refl _) (fun _ e => by cases e)
  have HO : Hid (OwnV 57 3 w1 w.heap.size (some ⟨w.heap.size, 0, none⟩) 0 n (l.take 0)) := Lib.hid ⟨[], ⟨rfl, hown⟩, by simp, fun j g x h => by simp at h, fun i j h k _ h' => by simp at h'⟩
  have HB := Lib.hid hb1
  clear hown hgrow hb1
  go_wp2_with fail
  go_loopw [3, 11] (fun v i wr => ∃ (j g d : Nat), j ≤ n ∧ i = .int .i64 j ∧ v = .slice (some ⟨g, 0, none⟩) j d ∧ OwnV 57 3 wr w.heap.size (some ⟨g, 0, none⟩) j d (l.take j) ∧ Below w.heap.size w wr) (fun _ i _ => n - (intOf i).toNat)
  case atStart => exact ⟨0, _, _, Nat.zero_le _, rfl, rfl, HO.out, HB.out⟩
  case round =>
    obtain ⟨j, g, d, hj, rfl, rfl, hown, hb⟩ := hrel
    have HO2 := Lib.hid hown
    have HB2 := Lib.hid hb
    clear hown hb
    by_cases hlt : j < n
    · obtain ⟨bb, o, p, pm, pd, k, y, rfl, hx, hc0, hc1, hN, hr⟩ := (H.out.same HB2.out).at_ hlt
      have hsz := HB2.out.size
      have hym := hN.len
      have hyi := itemsOf_mem hx
      dsimp only at hyi
      have HF : Hid (l.take (j + 1) = l.take j ++ [⟨k, y⟩]) := Lib.hid (by rw [List.take_add_one, hx]; rfl)
      have HW : Hid (Below wr.heap.size wr (wr.alloc (.cells #[.int .i64 k, .slice p pm pd] 57))) := Lib.hid (alloc_same _ _)
      have hs2 : wr.heap.size ≤ (wr.alloc (.cells #[.int .i64 k, .slice p pm pd] 57)).heap.size := HW.out.size
      have HC := Lib.hid (copyExt_any k p pm pd y _ (hN.same HW.out) (by omega))
      unfold MadeX at HC
      clear hx hN
      go_wp2_with fail
      refine HC.out.mono ?_
      rintro e3 w3 ⟨q3, m3, d3, rfl, ho3, hb3⟩
      have HO3 := Lib.hid ho3
      have HB4 := Lib.hid (HW.out.trans (hb3.mono hs2))
      have hs4 := HB4.out.size
      have HNN : Hid (Items Vh.enc 2 (w3.alloc (.cells #[.int .i64 k, .slice q3 m3 d3] 57)) (some ⟨w3.heap.size, 0, none⟩) 1 [⟨k, q3, m3, d3⟩]) := Lib.hid (items_new Vh.enc_len w3 ⟨k, q3, m3, d3⟩ 57)
      clear hb3 hc0 hc1 ho3
      go_wp2_with (at_builtin; refine wpl_appV (S := wr.heap.size) (B := w.heap.size) _ rfl (.tmp 15) (.tmp 18) 24 rfl 57 3 i0 (.agg #[.int .i64 0, .slice none 0 0]) 32 Try.underlying24 HI.out.1 HI.out.2.1 HI.out.2.2.1 HI.out.2.2.2 rfl rfl ((HO2.out.lim.same HB4.out).same (alloc_same _ _)) rfl HNN.out ((HO3.out.lower (by omega)).alloc _) (fun ad e => by have := (HO3.out.span ad e).1; omega) (by omega) ?c4 ?c5 ?_)
      case c4 => omega
      case c5 => simp; omega
      intro a4 c4 w4 ho4 hb4
      obtain ⟨g4, rfl, _, _⟩ := ho4.head (by omega)
      have HO4 : Hid (OwnV 57 3 w4 w.heap.size (some ⟨g4, 0, none⟩) (j + 1) c4 (l.take (j + 1))) := Lib.hid (by rw [HF.out]; exact ho4)
      have HB5 : Hid (Below w.heap.size w w4) := Lib.hid ((HB2.out.trans (HB4.out.mono hsz)).trans ((((alloc_same _ _).mono (Nat.le_trans hsz hs4))).trans hb4))
      clear ho4 hb4
      go_wp2_with fail
      go_roundw
      case rel => exact ⟨j + 1, g4, c4, by omega, by go_num, rfl, HO4.out, HB5.out⟩
      case measure => simp [intOf]; omega
    · obtain rfl : j = n := by omega
      go_wp2
      go_ret
      have h1 := HO2.out
      rw [List.take_of_length_le (by rw [hln.out]; omega)] at h1
      exact ⟨_, _, rfl, h1, HB2.out⟩
end Go.Proofs.Ytnjjfagokbbelaa
namespace Go.Proofs.Ytnjjfagokbbelaa
open Go.ChangeShapes Go.WideShapes Go.ChangeAt Go.RowKit
set_option linter.unusedVariables false

theorem at_insert {α : Type} (l : List α) (k : Nat) (x : α) (hk : k ≤ l.length) (i : Nat) : (l.take k ++ x :: l.drop k)[i]? = if i < k then l[i]? else if i = k then some x else l[i - 1]? := by
  have hl : (l.take k).length = k := by rw [List.length_take]; omega
  split
  · rename_i h
    rw [List.getElem?_append_left (by omega), List.getElem?_take_of_lt h]
  · rename_i h
    rw [List.getElem?_append_right (by omega), hl]
    split
    · rename_i e
      subst e
      simp
    · rename_i e
      obtain ⟨j, hj⟩ : ∃ j, i - k = j + 1 := ⟨i - k - 1, by omega⟩
      rw [hj, List.getElem?_cons_succ, List.getElem?_drop]
      congr 1
      omega
theorem RowsV.insert {tI : TypeId} {w : World} {B q k : Nat} {a : Option Addr} {hs : List Vh} {l : List Vl} {x : Vh} {y : Vl} (hr : RowsV tI w B a hs l) (hk : k ≤ l.length)
    (hx : y.num = x.num ∧ Own .i64 tI w B x.p x.m x.c y.items) (hnew : ∀ (j : Nat) (h : Vh) ad bd, hs[j]? = some h → h.p = some ad → x.p = some bd → ad.block ≠ bd.block)
    (hq : ∀ (j : Nat) (h : Vh) ad, hs[j]? = some h → h.p = some ad → ad.block ≠ q) (hxq : ∀ ad, x.p = some ad → ad.block ≠ q) :
    RowsV tI w B (some ⟨q, 0, none⟩) (hs.take k ++ x :: hs.drop k) (l.take k ++ y :: l.drop k) := by
  have hk2 : k ≤ hs.length := by rw [hr.1]; exact hk
  refine ⟨by have := hr.1; simp; omega, ?_, ?_⟩
  · intro j h z e1 e2
    rw [at_insert _ _ _ hk2] at e1
    rw [at_insert _ _ _ hk] at e2
    by_cases h1 : j < k
    · rw [if_pos h1] at e1 e2
      obtain ⟨q1, q2, _⟩ := hr.2.1 j h z e1 e2
      exact ⟨q1, q2, fun ad bd e3 e4 => by cases e4; exact hq j h ad e1 e3⟩
    · rw [if_neg h1] at e1 e2
      by_cases h2 : j = k
      · rw [if_pos h2] at e1 e2
        cases e1
        cases e2
        exact ⟨hx.1, hx.2, fun ad bd e3 e4 => by cases e4; exact hxq ad e3⟩
      · rw [if_neg h2] at e1 e2
        obtain ⟨q1, q2, _⟩ := hr.2.1 (j - 1) h z e1 e2
        exact ⟨q1, q2, fun ad bd e3 e4 => by cases e4; exact hq (j - 1) h ad e1 e3⟩
  · intro i j h g hij e1 e2 ad bd e3 e4
    rw [at_insert _ _ _ hk2] at e1 e2
    by_cases h1 : i < k
    · rw [if_pos h1] at e1
      by_cases h2 : j < k
      · rw [if_pos h2] at e2
        exact hr.2.2 i j h g hij e1 e2 ad bd e3 e4
      · rw [if_neg h2] at e2
        by_cases h3 : j = k
        · rw [if_pos h3] at e2
          cases e2
          exact hnew i h ad bd e1 e3 e4
        · rw [if_neg h3] at e2
          exact hr.2.2 i (j - 1) h g (by omega) e1 e2 ad bd e3 e4
    · rw [if_neg h1] at e1
      rw [if_neg (by omega), if_neg (by omega)] at e2
      by_cases h3 : i = k
      · rw [if_pos h3] at e1
        cases e1
        exact fun e => hnew (j - 1) g bd ad e2 e4 e3 e.symm
      · rw [if_neg h3] at e1
        exact hr.2.2 (i - 1) (j - 1) h g (by omega) e1 e2 ad bd e3 e4
section
variable {P : Program} (w : World)
/-- Whole elements of s cells copied into a block that is known. -/
theorem run_copyAt (dT sT ty e : TypeId) (i : TypeInfo) {s : Nat} (hu : P.underlying dT = some (.slice e)) (hi : P.info? e = some i) (hsize : i.size = s) {g o nd dc ns sc : Nat} {ad : Addr} {cur : Array Value} {F : List Value}
    (hg : w.heap[g]? = some (.cells cur e (0, 0))) (m : Nat) (hm : Nat.min ns nd = m) (hF : F.length = m * s) (hr : ∀ j v, F[j]? = some v → w.cell? (ad.add j) = some v) (hfit : o + F.length ≤ cur.size) (h1 : ∀ v ∈ F, v.oneCell' = true) :
    (Builtin.copy_ #[dT, sT] ty #[.slice (some ⟨g, o, none⟩) nd dc, .slice (some ad) ns sc]).run P w = .ok (goInt (m : Nat)) (w.setRow g (cur.toList.take o ++ F ++ cur.toList.drop (o + F.length)).toArray) := by
  have hld : (loadCells ad (Nat.min ns nd * s)).run P w = .ok F.toArray w := by
    rw [hm, ← hF]
    exact run_loadCells_list (P := P) w ad F hr
  have hst := run_storeCells_at P g o e F 0 cur w hg (by omega) h1
  rw [Nat.add_zero] at hst
  have hm2 : min ns nd = m := hm
  have hld2 : (loadCells ad (m * s)).run P w = .ok F.toArray w := by rw [← hm]; exact hld
  simp [Builtin.copy_, run_underlying hu, Builtin.lenOf, Builtin.firstCells, sizeOf, typeInfo, hi, hsize, hm2, hld2, hst]
end
/-- What a copy leaves of a block's cells. -/
def putAt (o : Nat) (F cur : List Value) : List Value := cur.take o ++ F ++ cur.drop (o + F.length)
theorem putAt_len {o : Nat} {F cur : List Value} (h : o + F.length ≤ cur.length) : (putAt o F cur).length = cur.length := by
  unfold putAt
  simp
  omega
theorem ownV_block {t : TypeId} {w : World} {B g n c : Nat} {hs : List Vh} (h : OwnI Vh.enc 2 t w B (some ⟨g, 0, none⟩) n c hs) :
    ∃ R cur, w.heap[g]? = some (.cells cur t (0, 0)) ∧ cur.toList = flatOf Vh.enc hs ++ R ∧ B ≤ g ∧ n ≤ c ∧ c ≤ maxLen := by
  rcases h.row.2 with ⟨e, _⟩ | ⟨g', cap, cur, e, hb, hg, hn, hm, hs, ht⟩
  · cases e
  · cases e
    refine ⟨cur.toList.drop (n * 2), cur, hg, ?_, hb, hn, hm⟩
    rw [← ht, List.take_append_drop]
theorem flatV_split (l : List Vh) (k : Nat) : flatOf Vh.enc l = flatOf Vh.enc (l.take k) ++ flatOf Vh.enc (l.drop k) := by rw [← flatOf_app, List.take_append_drop]
theorem flatV_cells (l : List Vh) : ∀ v ∈ flatOf Vh.enc l, v.oneCell' = true := by
  intro v hv
  obtain ⟨x, _, hx⟩ := List.mem_flatMap.1 hv
  exact Vh.cells x v hx
/-- The cells, step by step: the front copied, the element stored, the rest copied. -/
theorem cells_insert (A D Z : List Value) (v0 v1 : Value) (hz : Z.length = A.length + 2 + D.length) :
    putAt (A.length + 2) D (((putAt 0 A Z).set A.length v0).set (A.length + 1) v1) = A ++ [v0, v1] ++ D := by
  have e1 : putAt 0 A Z = A ++ Z.drop A.length := by unfold putAt; simp
  obtain ⟨z0, z1, R, hR⟩ : ∃ z0 z1 R, Z.drop A.length = z0 :: z1 :: R := by
    rcases h : Z.drop A.length with _ | ⟨z0, _ | ⟨z1, R⟩⟩
    · have := congrArg List.length h; simp at this; omega
    · have := congrArg List.length h; simp at this; omega
    · exact ⟨z0, z1, R, rfl⟩
  have hRl : R.length = D.length := by
    have := congrArg List.length hR
    simp at this
    omega
  have e2 : ((A ++ z0 :: z1 :: R).set A.length v0).set (A.length + 1) v1 = A ++ v0 :: v1 :: R := by
    rw [List.set_append_right _ _ (Nat.le_refl _), Nat.sub_self, List.set_cons_zero, List.set_append_right _ _ (by omega), show A.length + 1 - A.length = 1 by omega, List.set_cons_succ, List.set_cons_zero]
  rw [e1, hR, e2]
  unfold putAt
  have e3 : (A ++ v0 :: v1 :: R) = (A ++ [v0, v1]) ++ R := by simp
  have e4 : A.length + 2 = (A ++ [v0, v1]).length := by simp
  rw [e3, e4, List.take_left, ← List.drop_drop, List.drop_left, List.drop_of_length_le (by omega), List.append_nil]
end Go.Proofs.Ytnjjfagokbbelaa
namespace Go.Proofs.Ytnjjfagokbbelaa
open Go.ChangeShapes Go.WideShapes Go.ChangeAt Go.RowKit
open Go.Proofs (wpList_copy_runI step_copy_runI)
set_option linter.unusedVariables false
set_option linter.unusedSimpArgs false

theorem addr_add0 (g a j : Nat) : (⟨g, a, none⟩ : Addr).add j = ⟨g, a + j, none⟩ := by unfold Addr.add; split <;> simp_all
set_option maxHeartbeats 4000000 in
set_option maxRecDepth 100000 in
theorem insertAt_any {w1 w : World} {B g n c k m d : Nat} {p : Option Addr} {l : List Vl} {y : List Int} {t : Int} (hown : OwnV 57 3 w1 B (some ⟨g, 0, none⟩) n c l) (hb : Below w1.heap.size w1 w) (hB : B ≤ w1.heap.size)
    (hv : Own .i64 3 w w1.heap.size p m d y) (hk : k ≤ n) (hn : n ≤ 1000) :
    Calls Try.prog 67 #[.slice (some ⟨g, 0, none⟩) n c, .int .i64 (k : Nat), .agg #[.int .i64 t, .slice p m d]] w
      (fun e w' => ∃ q, e = .returned (.slice (some ⟨q, 0, none⟩) (n + 1) (n + 1)) ∧ OwnV 57 3 w' B (some ⟨q, 0, none⟩) (n + 1) (n + 1) (l.take k ++ ⟨t, y⟩ :: l.drop k) ∧ Below w.heap.size w w') := by
  have hlen := hown.len
  have hsz1 := hb.size
  obtain ⟨hs, ho, hr⟩ := hown
  have hsl : hs.length = n := ho.len
  obtain ⟨R, cur, hg1, hcur, hBg, hnc, hcm⟩ := ownV_block ho
  have hgl : g < w1.heap.size := by
    rcases Nat.lt_or_ge g w1.heap.size with h | h
    · exact h
    · rw [Array.getElem?_eq_none h] at hg1; cases hg1
  have hg : w.heap[g]? = some (.cells cur 57 (0, 0)) := (hb.block g hgl).trans hg1
  obtain ⟨i0, hi, hz0, hz1, hz2⟩ := info_parts infoExtS
  have HI := Lib.hid (And.intro hi (And.intro hz0 (And.intro hz1 hz2)))
  have HH := Lib.hid (And.intro ho (And.intro hr (And.intro hb (And.intro hv (And.intro hsl hlen)))))
  have HC := Lib.hid hcur
  have HBg := Lib.hid (And.intro hB hBg)
  clear hi hz0 hz1 hz2 ho hr hb hv hg1 hcur hB hBg
  go_enter Try.func67, Try.ntmps67
  have hbx : (w.alloc (.cells #[.int .i64 t, .slice p m d] 57)).heap[w.heap.size]? = some (.cells #[.int .i64 t, .slice p m d] 57 (0, 0)) := heap_alloc_new w _
  have hgx : (w.alloc (.cells #[.int .i64 t, .slice p m d] 57)).heap[g]? = some (.cells cur 57 (0, 0)) := by rw [(alloc_same w _).block g (by omega)]; exact hg
  have HX : Hid (Below w.heap.size w (w.alloc (.cells #[.int .i64 t, .slice p m d] 57))) := Lib.hid (alloc_same w _)
  have hxs : (w.alloc (.cells #[.int .i64 t, .slice p m d] 57)).heap.size = w.heap.size + 1 := by simp
  go_wp2_with (with_reducible refine wpList_make_full _ rfl (.tmp 10) (.tmp 10) 24 rfl w.heap.size 57 i0 (.agg #[.int .i64 0, .slice none 0 0]) 2 Try.underlying24 HI.out.1 HI.out.2.1 HI.out.2.2.1 .i64 .i64 _ _ (n + 1) rfl rfl ?c0 ?c1 ?c2 ?c3 ?c4 ?_)
  case c0 => push_cast; rfl
  case c1 => push_cast; rfl
  case c2 => rw [HI.out.2.2.2]; omega
  case c3 => unfold maxLen; omega
  case c4 => simp
  intro w2 hrow hgrow
  obtain ⟨W0, hW0⟩ : ∃ W0, w.alloc (.cells #[.int .i64 t, .slice p m d] 57) = W0 := ⟨_, rfl⟩
  rw [hW0] at hbx hgx HX hxs hgrow
  obtain ⟨q, hq⟩ : ∃ q, w.heap.size + 1 = q := ⟨_, rfl⟩
  rw [hq] at hrow ⊢
  have hb2 : Below W0.heap.size W0 w2 := (Below.refl _ W0).grown hgrow (Nat.le_refl _) (fun _ e => by cases e)
  rcases hrow.2 with ⟨e, _⟩ | ⟨q', cap, zs, e, _, hqz, _, _, hzs, _⟩
  · cases e
  cases e
  have hgq : g ≠ q := by omega
  have hxq : w.heap.size ≠ q := by omega
  have hg2 : w2.heap[g]? = some (.cells cur 57 (0, 0)) := (hb2.block g (by omega)).trans hgx
  have hx2 : w2.heap[w.heap.size]? = some (.cells #[.int .i64 t, .slice p m d] 57 (0, 0)) := (hb2.block _ (by omega)).trans hbx
  obtain ⟨A, hA⟩ : ∃ A, flatOf Vh.enc (hs.take k) = A := ⟨_, rfl⟩
  obtain ⟨D, hD⟩ : ∃ D, flatOf Vh.enc (hs.drop k) = D := ⟨_, rfl⟩
  have hAl : A.length = k * 2 := by rw [← hA, flatOf_len Vh.enc_len, List.length_take, hsl]; congr 1; omega
  have hDl : D.length = (n - k) * 2 := by rw [← hD, flatOf_len Vh.enc_len, List.length_drop, hsl]
  have hAc : ∀ v ∈ A, v.oneCell' = true := by rw [← hA]; exact flatV_cells _
  have hDc : ∀ v ∈ D, v.oneCell' = true := by rw [← hD]; exact flatV_cells _
  have hcurA : cur.toList = A ++ D ++ R := by rw [HC.out, flatV_split hs k, hA, hD]
  have hzl : zs.toList.length = A.length + 2 + D.length := by rw [Array.length_toList, hzs, hAl, hDl]; omega
  obtain ⟨c1, hc1⟩ : ∃ c1 : Array Value, c1 = (putAt 0 A zs.toList).toArray := ⟨_, rfl⟩
  have hs1 : c1.size = (n + 1) * 2 := by rw [hc1, List.size_toArray, putAt_len (by omega), Array.length_toList, hzs]
  obtain ⟨W3, hW3⟩ : ∃ W3, W3 = w2.setRow q c1 := ⟨_, rfl⟩
  have hq3 : W3.heap[q]? = some (.cells c1 57 (0, 0)) := by rw [hW3]; exact setRow_heap _ _ _ _ _ _ hqz
  have hx3 : W3.heap[w.heap.size]? = some (.cells #[.int .i64 t, .slice p m d] 57 (0, 0)) := by rw [hW3, setRow_other w2 q _ c1 hxq]; exact hx2
  have hg3 : W3.heap[g]? = some (.cells cur 57 (0, 0)) := by rw [hW3, setRow_other w2 q _ c1 hgq]; exact hg2
  have hcp1 : ∀ ty dc sc, (Builtin.copy_ #[24, 24] ty #[.slice (some ⟨q, 0, none⟩) (n + 1) dc, .slice (some ⟨g, 0, none⟩) k sc]).run Try.prog w2 = .ok (goInt (k : Nat)) W3 := fun ty dc sc => by
    have h := run_copyAt (P := Try.prog) w2 24 24 ty 57 i0 Try.underlying24 HI.out.1 HI.out.2.2.1 (o := 0) (nd := n + 1) (dc := dc) (ns := k) (sc := sc) (ad := ⟨g, 0, none⟩) (F := A) hqz k (by
      show min k (n + 1) = k
      omega) hAl (fun j v hj => by
        have hj2 : j < A.length := lt_of_some hj
        rw [addr_add0, Nat.zero_add, block_cell hg2, ← Array.getElem?_toList, hcurA, List.append_assoc, List.getElem?_append_left hj2]
        exact hj) (by rw [hzs]; omega) hAc
    rw [h, hW3, hc1]
    rfl
  obtain ⟨W4, hW4⟩ : ∃ W4, (W3.setCell ⟨q, k * 2, none⟩ (.int .i64 t)).setCell ⟨q, k * 2 + 1, none⟩ (.slice p m d) = W4 := ⟨_, rfl⟩
  have hq4 := heap_setCell_same _ q (k * 2 + 1) _ _ (.slice p m d) (heap_setCell_same W3 q (k * 2) c1 _ (.int .i64 t) hq3)
  rw [hW4] at hq4
  obtain ⟨c2, hc2⟩ : ∃ c2 : Array Value, c2 = (c1.setIfInBounds (k * 2) (.int .i64 t)).setIfInBounds (k * 2 + 1) (.slice p m d) := ⟨_, rfl⟩
  rw [← hc2] at hq4
  have hs2 : c2.size = (n + 1) * 2 := by rw [hc2]; simp [hs1]
  have hg4 : W4.drew.heap[g]? = some (.cells cur 57 (0, 0)) := by
    show W4.heap[g]? = _
    rw [← hW4, Below.heap_setCell _ _ _ _ hgq, Below.heap_setCell _ _ _ _ hgq]
    exact hg3
  have hq4d : W4.drew.heap[q]? = some (.cells c2 57 (0, 0)) := hq4
  obtain ⟨c3, hc3⟩ : ∃ c3 : Array Value, c3 = (putAt ((k + 1) * 2) D c2.toList).toArray := ⟨_, rfl⟩
  obtain ⟨W5, hW5⟩ : ∃ W5, W5 = W4.drew.setRow q c3 := ⟨_, rfl⟩
  have hq5 : W5.heap[q]? = some (.cells c3 57 (0, 0)) := by rw [hW5]; exact setRow_heap _ _ _ _ _ _ hq4d
  have hcp2 : ∀ ty dc sc, (Builtin.copy_ #[24, 24] ty #[.slice (some ⟨q, (k + 1) * 2, none⟩) (n + 1 - (k + 1)) dc, .slice (some ⟨g, k * 2, none⟩) (n - k) sc]).run Try.prog W4.drew = .ok (goInt ((n - k : Nat) : Int)) W5 := fun ty dc sc => by
    have h := run_copyAt (P := Try.prog) W4.drew 24 24 ty 57 i0 Try.underlying24 HI.out.1 HI.out.2.2.1 (o := (k + 1) * 2) (nd := n + 1 - (k + 1)) (dc := dc) (ns := n - k) (sc := sc) (ad := ⟨g, k * 2, none⟩) (F := D) hq4d (n - k) (by
      show min (n - k) (n + 1 - (k + 1)) = n - k
      omega) hDl (fun j v hj => by
        have hj2 : j < D.length := lt_of_some hj
        rw [addr_add0, block_cell hg4, ← Array.getElem?_toList, hcurA, List.append_assoc, ← hAl, List.getElem?_append_right (by omega), Nat.add_sub_cancel_left, List.getElem?_append_left hj2]
        exact hj) (by rw [hs2, hDl]; omega) hDc
    rw [h, hW5, hc3]
    rfl
  have hcp0 : ∀ ty dc sc o, n = k → (Builtin.copy_ #[24, 24] ty #[.slice (some ⟨q, 0, none⟩) 0 dc, .slice (some ⟨g, o, none⟩) 0 sc]).run Try.prog W4.drew = .ok (goInt ((0 : Nat) : Int)) W5 := fun ty dc sc o hnk => by
    have h := run_copyAt (P := Try.prog) W4.drew 24 24 ty 57 i0 Try.underlying24 HI.out.1 HI.out.2.2.1 (o := 0) (nd := 0) (dc := dc) (ns := 0) (sc := sc) (ad := ⟨g, o, none⟩) (F := []) hq4d 0 rfl (by simp) (fun j v hj => by simp at hj) (by simp) (by simp)
    rw [h, hW5, hc3]
    have hD0 : D = [] := by
      have : D.length = 0 := by rw [hDl]; omega
      exact List.eq_nil_of_length_eq_zero this
    have e : (putAt ((k + 1) * 2) D c2.toList) = c2.toList := by
      rw [hD0]
      unfold putAt
      rw [List.take_of_length_le (by rw [Array.length_toList, hs2]; omega), List.drop_of_length_le (by rw [Array.length_toList, hs2]; simp; omega)]
      simp
    rw [e]
    simp
  have hfin : c3.toList = A ++ [.int .i64 t, .slice p m d] ++ D := by
    rw [hc3, hc2, Array.toList_setIfInBounds, Array.toList_setIfInBounds, hc1]
    have := cells_insert A D zs.toList (.int .i64 t) (.slice p m d) hzl
    rw [hAl] at this
    rw [show (k + 1) * 2 = k * 2 + 2 by omega]
    exact this
  have hB5 : Below w.heap.size w W5 := by
    rw [hW5]
    refine below_setRow ?_ (by omega) _
    rw [← hW4, hW3]
    exact ((((below_setRow (HX.out.trans (hb2.mono (by omega))) (by omega) _)).setCell (by dsimp only; omega) _).setCell (by dsimp only; omega) _).drew
  have HW : Hid (OwnV 57 3 W5 B (some ⟨q, 0, none⟩) (n + 1) (n + 1) (l.take k ++ ⟨t, y⟩ :: l.drop k) ∧ Below w.heap.size w W5) := Lib.hid ⟨by
    obtain ⟨ho, hr, hb, hv, _, _⟩ := HH.out
    have hfl : flatOf Vh.enc (hs.take k ++ ⟨t, p, m, d⟩ :: hs.drop k) = A ++ [.int .i64 t, .slice p m d] ++ D := by
      rw [flatOf_app, hA, List.append_assoc]
      show A ++ (Vh.enc ⟨t, p, m, d⟩ ++ flatOf Vh.enc (hs.drop k)) = _
      rw [hD]
      rfl
    have hll : (A ++ [Value.int .i64 t, .slice p m d] ++ D).length = (n + 1) * 2 := by simp; omega
    refine ⟨hs.take k ++ ⟨t, p, m, d⟩ :: hs.drop k, ⟨by simp; omega, ?_⟩, ?_⟩
    · refine ⟨by rw [hfl, hll], .inr ⟨q, n + 1, c3, rfl, by have := HBg.out.1; omega, hq5, Nat.le_refl _, by unfold maxLen; omega, by rw [← Array.length_toList, hfin, hll], ?_⟩⟩
      rw [hfl, hfin, ← hll]
      exact List.take_of_length_le (Nat.le_refl _)
    · have hsame : RowsV 3 W5 B (some ⟨g, 0, none⟩) hs l := (hr.same hb).same hB5
      have hlt : ∀ (j : Nat) (h : Vh) ad, hs[j]? = some h → h.p = some ad → ad.block < w1.heap.size := fun j h ad e1 e2 => (hr.lt e1 e2).2
      have hvs := hv.span
      refine RowsV.insert hsame (by omega) ⟨rfl, (hv.lower HBg.out.1).same hB5⟩ ?_ ?_ ?_
      · intro j h ad bd e1 e2 e3
        have := hlt j h ad e1 e2
        have := (hvs bd e3).1
        omega
      · intro j h ad e1 e2
        have := hlt j h ad e1 e2
        omega
      · intro ad e1
        have := (hvs ad e1).2
        omega, hB5⟩
  have hkz : (k : Int) ≤ (n : Int) := by omega
  have hw1 : IntKind.i64.wrap ((k : Int) + 1) = (k : Int) + 1 := by rw [IntKind.wrap_i64]; omega
  have hb1 : (0 : Int) ≤ (k : Int) + 1 := by omega
  have htn : ((k : Int) + 1).toNat = k + 1 := by omega
  have hkn1 : (k : Int) ≤ (n : Int) + 1 := by omega
  have z0 : W3.cell? ⟨w.heap.size, 0, none⟩ = some (.int .i64 t) := (block_cell hx3 0).trans rfl
  have z1 : W3.cell? ⟨w.heap.size, 1, none⟩ = some (.slice p m d) := (block_cell hx3 1).trans rfl
  have y0 : ∃ u0, W3.cell? ⟨q, k * 2, none⟩ = some u0 := ⟨_, (block_cell hq3 _).trans (Array.getElem?_eq_getElem (by omega))⟩
  have y1 : ∃ u1, W3.cell? ⟨q, k * 2 + 1, none⟩ = some u1 := ⟨_, (block_cell hq3 _).trans (Array.getElem?_eq_getElem (by omega))⟩
  have f0 : W3.frozen? ⟨q, k * 2, none⟩ = false := block_frozen hq3 _
  have f1 : W3.frozen? ⟨q, k * 2 + 1, none⟩ = false := block_frozen hq3 _
  obtain ⟨u0, hu0⟩ := y0
  obtain ⟨u1, hu1⟩ := y1
  clear hq5 hfin hB5 hW5 hc3 hq4d hg4 hq4 hc2 hs2 hc1 hs1 hW3 hq3 hx3 hg3 hzl hcurA hAc hDc hAl hDl hA hD hg2 hx2 hqz hzs hrow hgrow hgx hbx HC
  go_wp2_with (at_builtin; refine wpList_copy_runI _ rfl _ _ 24 24 rfl _ _ rfl rfl (hcp1 _ _ _) ?_)
  have mixed : Try.prog.follows .mixedOrders = true := by rfl
  have hb3 : ¬ (n + 1 < k + 1) := by omega
  by_cases hnk : n = k
  · have hcp3 := fun ty dc sc o => hcp0 ty dc sc o hnk
    subst hnk
    clear hcp2 hcp0
    by_cases hcn : c = n
    · subst hcn
      go_region_law_o (refine step_copy_runI rfl _ _ 24 24 rfl (.slice (some ⟨q, 0, none⟩) 0 0) (.slice (some ⟨g, 0, none⟩) 0 0) (by simp [Act.eval, Act.put]) (by simp [Act.eval, Act.put]) (hcp3 3 0 0 0) ?_)
      go_wp2_with fail
      go_ret
      exact ⟨q, rfl, HW.out.1, HW.out.2⟩
    · go_region_law_o (refine step_copy_runI rfl _ _ 24 24 rfl (.slice (some ⟨q, 0, none⟩) 0 0) (.slice (some ⟨g, n * 2, none⟩) 0 (c - n)) (by simp [Act.eval, Act.put]) (by simp [Act.eval, Act.put]) (hcp3 3 0 (c - n) (n * 2)) ?_)
      go_wp2_with fail
      go_ret
      exact ⟨q, rfl, HW.out.1, HW.out.2⟩
  have hck : ¬ (c = k) := by omega
  go_region_law_o (refine step_copy_runI rfl _ _ 24 24 rfl (.slice (some ⟨q, (k + 1) * 2, none⟩) (n + 1 - (k + 1)) (n + 1 - (k + 1))) (.slice (some ⟨g, k * 2, none⟩) (n - k) (c - k)) (by simp [Act.eval, Act.put]) (by simp [Act.eval, Act.put]) (hcp2 3 (n + 1 - (k + 1)) (c - k)) ?_)
  go_wp2_with fail
  go_ret
  exact ⟨q, rfl, HW.out.1, HW.out.2⟩
end Go.Proofs.Ytnjjfagokbbelaa
