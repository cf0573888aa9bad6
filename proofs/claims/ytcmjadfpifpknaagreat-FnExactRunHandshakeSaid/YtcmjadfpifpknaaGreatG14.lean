/- Hellos and answers: which are valid, how they are written and read, what is chosen and what fits. No function of the program is spoken of. What lies beside the blocks that have changed. No function of the program is spoken of. The helpers of the exact laws at lists of values: marked, looked at. Hellos and answers by value: where they lie. No function of the program is spoken of. -/
import Derived.Test.YtcmjadfpifpknaaGreatG6
import Derived.Test.YtcmjadfpifpknaaGreatG13
import Derived.Test.YtcmjadfpifpknaaGreatG11
import Derived.Test.YtcmjadfpifpknaaGreatG1
import Derived.Test.YtcmjadfpifpknaaGreatG12
import Derived.Deep.QuietTactic
import Derived.BigQuiet
import Derived.RegionTactic
import Derived.Handy
namespace Go.Proofs.YtcmjadfpifpknaaGreat
open Go.ChangeShapes Go.WideShapes Go.ChangeAt Go.RowKit
set_option linter.unusedVariables false

structure Hel where
  vers : List Int
  exts : List Vl
structure Ans where
  ver : Int
  exts : List Vl
def Hel.parts (x : Hel) : Nat := x.vers.length + (x.exts.length + itemsOf x.exts)
def Ans.parts (x : Ans) : Nat := x.exts.length + itemsOf x.exts
def isH (x : Hel) : Bool := areV x.vers && areX x.exts
def isA (x : Ans) : Bool := inBd x.ver 1 9 && areX x.exts
theorem isH_parts {x : Hel} : isH x = true ↔ word x.vers ≠ 0 ∧ areX x.exts = true := by
  unfold isH areV
  rw [Bool.and_eq_true, decide_eq_true_iff]
theorem isA_parts {x : Ans} : isA x = true ↔ (1 ≤ x.ver ∧ x.ver ≤ 9) ∧ areX x.exts = true := by
  unfold isA
  rw [Bool.and_eq_true, inBd_iff]
def codeH (x : Hel) : List Int := (x.vers.length : Int) :: (x.vers ++ encX x.exts)
def codeA (x : Ans) : List Int := x.ver :: encX x.exts
def helB (x : Hel) : List Int := if isH x = true then codeH x else []
def ansB (x : Ans) : List Int := if isA x = true then codeA x else []
theorem helB_yes {x : Hel} (h : isH x = true) : helB x = codeH x := if_pos h
theorem helB_no {x : Hel} (h : isH x = false) : helB x = [] := if_neg (by rw [h]; decide)
theorem ansB_yes {x : Ans} (h : isA x = true) : ansB x = codeA x := if_pos h
theorem ansB_no {x : Ans} (h : isA x = false) : ansB x = [] := if_neg (by rw [h]; decide)
theorem codeH_few {x : Hel} (h : isH x = true) : (codeH x).length ≤ 50 := by
  obtain ⟨h1, h2⟩ := isH_parts.1 h
  have := areV_len h1
  have := encX_few h2
  simp [codeH]
  omega
theorem helB_few (x : Hel) : (helB x).length ≤ 50 := by
  cases h : isH x with
  | true => rw [helB_yes h]; exact codeH_few h
  | false => rw [helB_no h]; simp
theorem ansB_few (x : Ans) : (ansB x).length ≤ 50 := by
  cases h : isA x with
  | true =>
    rw [ansB_yes h]
    have := encX_few (isA_parts.1 h).2
    simp [codeA]
    omega
  | false => rw [ansB_no h]; simp
/-- The hello that a list of bytes is. -/
def rdH : List Int → Option Hel
  | [] => none
  | z :: t => if (0 ≤ z ∧ z ≤ (t.length : Int)) ∧ areV (t.take z.toNat) = true then (decX (t.drop z.toNat)).map (fun l => ⟨t.take z.toNat, l⟩) else none
def rdHel (y : List Int) : Hel := (rdH y).getD ⟨[], []⟩
def rdOk (y : List Int) : Bool := (rdH y).isSome
theorem rdH_none {y : List Int} (h : rdH y = none) : rdHel y = ⟨[], []⟩ ∧ rdOk y = false := by unfold rdHel rdOk; rw [h]; exact ⟨rfl, rfl⟩
theorem rdH_some {y : List Int} {x : Hel} (h : rdH y = some x) : rdHel y = x ∧ rdOk y = true := by unfold rdHel rdOk; rw [h]; exact ⟨rfl, rfl⟩
theorem rdH_iff {y : List Int} {x : Hel} : rdH y = some x ↔ isH x = true ∧ y = codeH x := by
  obtain ⟨v, l⟩ := x
  constructor
  · intro h
    cases y with
    | nil => cases h
    | cons z t =>
      rw [rdH] at h
      by_cases hc : (0 ≤ z ∧ z ≤ (t.length : Int)) ∧ areV (t.take z.toNat) = true
      · rw [if_pos hc] at h
        obtain ⟨⟨h0, h1⟩, h2⟩ := hc
        obtain ⟨q, rfl⟩ : ∃ q : Nat, z = q := ⟨z.toNat, by omega⟩
        rw [Int.toNat_natCast] at h h2
        cases hd : decX (t.drop q) with
        | none => rw [hd] at h; cases h
        | some l' =>
          rw [hd] at h
          simp only [Option.map_some, Option.some.injEq, Hel.mk.injEq] at h
          obtain ⟨rfl, rfl⟩ := h
          obtain ⟨e1, e2⟩ := decX_iff.1 hd
          refine ⟨isH_parts.2 ⟨of_decide_eq_true h2, e1⟩, ?_⟩
          unfold codeH
          dsimp only
          rw [← e2, List.take_append_drop, List.length_take]
          congr 1
          exact congrArg Nat.cast (Nat.min_eq_left (show q ≤ t.length by omega)).symm
      · rw [if_neg hc] at h; cases h
  · rintro ⟨h, rfl⟩
    obtain ⟨h1, h2⟩ := isH_parts.1 h
    dsimp only at h1 h2
    unfold codeH rdH
    dsimp only
    rw [Int.toNat_natCast, List.take_left, List.drop_left, if_pos ⟨⟨by omega, by rw [List.length_append]; omega⟩, areV_yes h1⟩, decX_iff.2 ⟨h2, rfl⟩]
    rfl
theorem rdHel_few (y : List Int) : (rdHel y).vers.length ≤ 9 ∧ (rdHel y).exts.length ≤ 6 ∧ itemsOf (rdHel y).exts ≤ 24 := by
  cases h : rdH y with
  | none => rw [(rdH_none h).1]; simp [itemsOf]
  | some x =>
    rw [(rdH_some h).1]
    obtain ⟨h1, h2⟩ := isH_parts.1 (rdH_iff.1 h).1
    have := areV_len h1
    have := areX_few h2
    omega
/-- What a side answers. -/
def chA (vs ts : List Int) (x : Hel) : Option Ans := if isH x = true ∧ best vs x.vers ≠ 0 then some ⟨(best vs x.vers : Int), strX (knownOf x.exts ts)⟩ else none
def chAns (vs ts : List Int) (x : Hel) : Ans := (chA vs ts x).getD ⟨0, []⟩
def chOk (vs ts : List Int) (x : Hel) : Bool := (chA vs ts x).isSome
theorem chA_yes {vs ts : List Int} {x : Hel} (h : isH x = true) (h' : best vs x.vers ≠ 0) : chA vs ts x = some ⟨(best vs x.vers : Int), strX (knownOf x.exts ts)⟩ := if_pos ⟨h, h'⟩
theorem chA_no {vs ts : List Int} {x : Hel} (h : isH x = false ∨ best vs x.vers = 0) : chA vs ts x = none := if_neg (fun q => by
  rcases h with e | e
  · rw [e] at q; cases q.1
  · exact q.2 e)
theorem chA_none {vs ts : List Int} {x : Hel} (h : chA vs ts x = none) : chAns vs ts x = ⟨0, []⟩ ∧ chOk vs ts x = false := by unfold chAns chOk; rw [h]; exact ⟨rfl, rfl⟩
theorem chA_some {vs ts : List Int} {x : Hel} {a : Ans} (h : chA vs ts x = some a) : chAns vs ts x = a ∧ chOk vs ts x = true := by unfold chAns chOk; rw [h]; exact ⟨rfl, rfl⟩
theorem items_filter (f : Vl → Bool) : ∀ l : List Vl, itemsOf (l.filter f) ≤ itemsOf l
  | [] => Nat.le_refl _
  | x :: t => by
    have := items_filter f t
    unfold itemsOf at *
    cases h : f x
    · rw [List.filter_cons_of_neg (by simp [h])]
      simp only [List.map_cons, List.sum_cons]
      omega
    · rw [List.filter_cons_of_pos (by simp [h])]
      simp only [List.map_cons, List.sum_cons]
      omega
theorem chAns_few (vs ts : List Int) (x : Hel) : (chAns vs ts x).exts.length ≤ 6 ∧ itemsOf (chAns vs ts x).exts ≤ 24 := by
  cases h : chA vs ts x with
  | none => rw [(chA_none h).1]; simp [itemsOf]
  | some a =>
    rw [(chA_some h).1]
    unfold chA at h
    split at h
    · next hc =>
      cases h
      dsimp only
      have h1 := areX_few (isH_parts.1 hc.1).2
      have h2 := known_few x.exts ts
      have h3 := strX_few (knownOf x.exts ts)
      have h4 : itemsOf (knownOf x.exts ts) ≤ itemsOf x.exts := items_filter _ _
      have h5 : itemsOf (strX (knownOf x.exts ts)) ≤ itemsOf (knownOf x.exts ts) := items_filter _ _
      omega
    · cases h
/-- Whether an answer fits a hello. -/
def fitsX (x : Hel) (a : Ans) : Bool := a.exts.all fun e => decide (e.num ∈ tagsX x.exts) && !resv e.num
def fitsA (x : Hel) (a : Ans) : Bool := fitsX x a && (isH x && isA a && decide (a.ver ∈ x.vers))
theorem fitsX_split (x : Hel) (a : Ans) : fitsX x a = (!hasG a.exts && (tagsX a.exts).all fun t => decide (t ∈ tagsX x.exts)) := by
  unfold fitsX hasG
  generalize a.exts = l
  have e : tagsX l = l.map (·.num) := rfl
  rw [e]
  clear e
  induction l with
  | nil => rfl
  | cons y t ih =>
    simp only [List.all_cons, List.map_cons, List.any_cons] at ih ⊢
    rw [ih]
    cases resv y.num <;> cases decide (y.num ∈ tagsX x.exts) <;> simp
theorem areX_filter {l : List Vl} (f : Vl → Bool) (h : areX l = true) : areX (l.filter f) = true := by
  obtain ⟨h1, h2, h3⟩ := areX_parts.1 h
  refine areX_parts.2 ⟨Nat.le_trans (List.length_filter_le _ _) h1, fun x hx => h2 x (List.mem_filter.1 hx).1, ?_⟩
  unfold tagsX at *
  exact h3.sublist (List.filter_sublist.map _)
theorem ch_fits {vs ts : List Int} {x : Hel} {a : Ans} (h : chA vs ts x = some a) : fitsA x a = true ∧ a.ver = (best vs x.vers : Int) ∧ (∀ t ∈ tagsX a.exts, t ∈ ts) ∧ 0 < (ansB a).length := by
  unfold chA at h
  split at h
  · next hc =>
    cases h
    obtain ⟨hx, hb⟩ := hc
    obtain ⟨h1, h2⟩ := isH_parts.1 hx
    have hb1 := best_le vs x.vers
    have hA : isA ⟨(best vs x.vers : Int), strX (knownOf x.exts ts)⟩ = true := isA_parts.2 ⟨by dsimp only; omega, areX_filter _ (areX_filter _ h2)⟩
    have hm : ∀ e, e ∈ strX (knownOf x.exts ts) → (e.num ∈ ts ∧ e ∈ x.exts) ∧ resv e.num = false := fun e he => by
      unfold strX whX at he
      obtain ⟨q1, q2⟩ := List.mem_filter.1 he
      unfold knownOf at q1
      obtain ⟨q3, q4⟩ := List.mem_filter.1 q1
      exact ⟨⟨of_decide_eq_true q4, q3⟩, by simpa using q2⟩
    refine ⟨?_, rfl, fun t ht => ?_, by rw [ansB_yes hA]; simp [codeA]⟩
    · unfold fitsA
      rw [hx, hA, decide_eq_true (best_in hb).2]
      simp only [Bool.and_true]
      unfold fitsX
      rw [List.all_eq_true]
      intro e he
      obtain ⟨⟨q1, q2⟩, q3⟩ := hm e he
      rw [q3, decide_eq_true (by unfold tagsX; exact List.mem_map_of_mem q2)]
      rfl
    · unfold tagsX at ht
      obtain ⟨e, he, rfl⟩ := List.mem_map.1 ht
      exact (hm e he).1.1
  · cases h
end Go.Proofs.YtcmjadfpifpknaaGreat
namespace Go.Proofs.YtcmjadfpifpknaaGreat
open Go.ChangeShapes Go.WideShapes Go.ChangeAt Go.RowKit
set_option linter.unusedVariables false

/-- Only blocks from lo on and below hi have changed, or are new. -/
structure Inside (lo hi : Nat) (w w' : World) : Prop where
  os : w'.os = w.os
  tape : w'.tape = w.tape
  output : w'.output = w.output
  size : w.heap.size ≤ w'.heap.size
  block : ∀ k, k < w.heap.size → k < lo ∨ hi ≤ k → w'.heap[k]? = w.heap[k]?
theorem Inside.refl (lo hi : Nat) (w : World) : Inside lo hi w w := ⟨rfl, rfl, rfl, Nat.le_refl _, fun _ _ _ => rfl⟩
theorem Inside.trans {lo hi : Nat} {a b c : World} (h : Inside lo hi a b) (k : Inside lo hi b c) : Inside lo hi a c :=
  ⟨k.os.trans h.os, k.tape.trans h.tape, k.output.trans h.output, Nat.le_trans h.size k.size, fun i hi hr => (k.block i (Nat.lt_of_lt_of_le hi h.size) hr).trans (h.block i hi hr)⟩
theorem Inside.row {lo hi : Nat} {w w' : World} {row : Option Nat} (h : w.grownBy w' row) (hr : ∀ r, row = some r → lo ≤ r ∧ r < hi) : Inside lo hi w w' :=
  ⟨h.os, h.tape, h.output, h.size, fun k hk hd => h.block k hk fun e => by have := hr k e.symm; omega⟩
theorem Inside.to {lo hi B0 : Nat} {w0 w w' : World} (h : Inside lo hi w w') (hb : Below B0 w0 w) (h0 : B0 ≤ lo) (h1 : B0 ≤ w.heap.size) : Below B0 w0 w' :=
  hb.trans ⟨h.os, h.tape, h.output, h.size, fun k hk => h.block k (by omega) (Or.inl (by omega))⟩
theorem Inside.below {lo hi : Nat} {a b c : World} (h : Inside lo hi a b) (k : Below a.heap.size b c) : Inside lo hi a c :=
  ⟨k.os.trans h.os, k.tape.trans h.tape, k.output.trans h.output, Nat.le_trans h.size k.size, fun i hi hr => (k.block i hi).trans (h.block i hi hr)⟩
section
variable {w w' : World} {B S n c lo hi : Nat} {a : Option Addr}
/-- The one block of a row, as it was. -/
theorem Inside.one (h : Inside lo hi w w') (ad : Addr) (hd : ad.block < lo ∨ hi ≤ ad.block) (hs : ad.block < w.heap.size) : ∃ w2 : World, w.grownBy w2 none ∧ w2.heap[ad.block]? = w'.heap[ad.block]? := ⟨w, grown_below (Below.refl _ _) _, (h.block _ hs hd).symm⟩
theorem row_aside {t : TypeId} {s : Nat} {v : Value} {xs : List Value} (h : w.ownsRow B t s v n xs) (hg : Inside lo hi w w') (hd : ∀ r, v.ownBlock = some r → r < lo ∨ hi ≤ r) : w'.ownsRow B t s v n xs := by
  refine ⟨h.1, ?_⟩
  rcases h.2 with hn | ⟨g, cap, cur, rfl, hb, hgg, rest⟩
  · exact .inl hn
  · refine .inr ⟨g, cap, cur, rfl, hb, ?_, rest⟩
    rw [hg.block g (Array.getElem?_eq_some_iff.1 hgg).1 (hd g rfl)]
    exact hgg
theorem block_of {p : Option Addr} {m d r : Nat} (h : Value.ownBlock (.slice p m d) = some r) : ∃ ad, p = some ad ∧ ad.block = r := by
  cases p with
  | none => simp [Value.ownBlock] at h
  | some ad => simp only [Value.ownBlock, Option.some.injEq] at h; exact ⟨ad, rfl, h⟩
theorem Own.aside {k : IntKind} {t : TypeId} {m d lo' hi' : Nat} {p : Option Addr} {y : List Int} (h : Own k t w B p m d y) (hg : Inside lo hi w w') (s : Span p lo' hi') (hd : hi ≤ lo' ∨ hi' ≤ lo) : Own k t w' B p m d y :=
  ⟨h.1, row_aside h.2 hg fun r e => by
    obtain ⟨ad, e1, rfl⟩ := block_of e
    have := s ad e1
    omega⟩
theorem OwnI.aside {α : Type} {enc : α → List Value} {s : Nat} {t : TypeId} {m d lo' hi' : Nat} {p : Option Addr} {y : List α} (h : OwnI enc s t w B p m d y) (hg : Inside lo hi w w') (sp : Span p lo' hi') (hd : hi ≤ lo' ∨ hi' ≤ lo) : OwnI enc s t w' B p m d y :=
  ⟨h.1, row_aside h.2 hg fun r e => by
    obtain ⟨ad, e1, rfl⟩ := block_of e
    have := sp ad e1
    omega⟩
end
end Go.Proofs.YtcmjadfpifpknaaGreat
namespace Go.Proofs.YtcmjadfpifpknaaGreat
open Go.ChangeShapes Go.WideShapes Go.ChangeAt Go.RowKit
set_option linter.unusedVariables false

section
variable {tO tI : TypeId} {w w' : World} {B S n c lo hi : Nat} {a : Option Addr} {l : List Vl} {hs : List Vh}
theorem OwnVB.aside (h : OwnVB S tO tI w B a n c l) (hg : Inside lo hi w w') (hd : hi ≤ B ∨ S ≤ lo) : OwnVB S tO tI w' B a n c l := by
  obtain ⟨hs, h1, h2, h3⟩ := h
  refine ⟨hs, h1.aside hg (lo' := B) (hi' := S) (fun ad e => ⟨(h1.span ad e).1, h3.1 ad e⟩) hd, ⟨h2.1, fun j g x hk hx => ?_, h2.2.2⟩, h3⟩
  obtain ⟨e, ho, hd1⟩ := h2.2.1 j g x hk hx
  exact ⟨e, ho.aside hg (lo' := B) (hi' := S) (fun ad e => ⟨(ho.span ad e).1, h3.2 j g ad hk e⟩) hd, hd1⟩
/-- Marks on another slice. -/
theorem OwnVB.apart {b : Option Addr} {m d lo' hi' : Nat} (h : OwnVB S tO tI w B a n c l) (hg : w.grownBy w' (Value.ownBlock (.slice b m d))) (s' : Span b lo' hi') (hd : hi' ≤ B ∨ S ≤ lo') : OwnVB S tO tI w' B a n c l :=
  h.far hg fun r e => by
    obtain ⟨ad, e1, rfl⟩ := block_of e
    have := s' ad e1
    omega
theorem OwnVB.len (h : OwnVB S tO tI w B a n c l) : l.length = n := h.ownV.len
theorem OwnVB.room (h : OwnVB S tO tI w B a n c l) : n ≤ c ∧ (c : Int) ≤ 9223372036854775807 := h.ownV.room
theorem OwnVB.vals (h : OwnVB S tO tI w B a n c l) : Vals w a n l := h.ownV.vals
/-- The number of a value is stored. -/
theorem OwnVB.putNum {g : Nat} (h : OwnVB S tO tI w B (some ⟨g, 0, none⟩) n c l) {i : Nat} {x : Vl} (hx : l[i]? = some x) (k : Int) :
    OwnVB S tO tI (w.setCell ⟨g, i * 2, none⟩ (.int .i64 k)) B (some ⟨g, 0, none⟩) n c (l.set i ⟨k, x.items⟩) ∧ Inside B S w (w.setCell ⟨g, i * 2, none⟩ (.int .i64 k)) := by
  obtain ⟨hs, h1, h2, hL⟩ := h
  have hih : i < hs.length := by rw [h2.1]; exact lt_of_some hx
  have hg := List.getElem?_eq_getElem hih
  have h3 := h1.2.stored (i * 2) (.int .i64 k)
  rw [flatVh_num hs i _ k hg] at h3
  obtain ⟨e1, ho, hd⟩ := h2.2.1 i _ x hg hx
  refine ⟨⟨_, ⟨by rw [List.length_set]; exact h1.len, h3.1⟩, h2.set hih ⟨k, (hs[i]).p, (hs[i]).m, (hs[i]).c⟩ x.items (Own.beside (b := some ⟨g, 0, none⟩) (n := n) (c := c) ho h3.2 hd) (fun j v y hj hv hy => ?_) hd (fun j v ad bd hj hv ha hb => h2.other hj hv hg ad bd ha hb), hL.1, fun j v ad hv e => ?_⟩, Inside.row h3.2 fun r e => ?_⟩
  · obtain ⟨_, ho2, hd2⟩ := h2.2.1 j v y hv hy
    exact Own.beside (b := some ⟨g, 0, none⟩) (n := n) (c := c) ho2 h3.2 hd2
  · by_cases q : j = i
    · subst q
      rw [List.getElem?_set_self hih] at hv
      cases hv
      exact hL.2 j _ ad hg e
    · rw [List.getElem?_set_ne (by omega)] at hv
      exact hL.2 j v ad hv e
  · cases e
    exact ⟨(h1.span _ rfl).1, hL.1 _ rfl⟩
/-- The integers of a value are overwritten in place. -/
theorem OwnVB.over (h1 : OwnI Vh.enc 2 tO w B a n c hs) (h2 : RowsV tI w B a hs l) (hL : Lim S a hs) {i : Nat} {x : Vl} {v : Vh} (hx : l[i]? = some x) (hv : hs[i]? = some v) {y : List Int} (hg : w.grownBy w' (Value.ownBlock (.slice v.p v.m v.c))) (ho : Own .i64 tI w' B v.p v.m v.c y) :
    OwnVB S tO tI w' B a n c (l.set i ⟨x.num, y⟩) ∧ Inside B S w w' := by
  have hih : i < hs.length := by rw [h2.1]; exact lt_of_some hx
  obtain ⟨e1, hov, hdv⟩ := h2.2.1 i v x hv hx
  have e2 : (⟨x.num, y⟩ : Vl) = ⟨v.num, y⟩ := by rw [e1]
  have e3 : hs = hs.set i v := by
    apply List.ext_getElem?
    intro j
    by_cases q : j = i
    · subst q
      rw [List.getElem?_set_self hih, hv]
    · rw [List.getElem?_set_ne (by omega)]
  rw [e2]
  refine ⟨⟨hs, h1.far hg fun ad e q => ?_, ?_, hL⟩, Inside.row hg fun r e => ?_⟩
  · obtain ⟨bd, hb, hbb⟩ := block_of q
    exact hdv bd ad hb e hbb
  · rw [e3]
    refine h2.set hih v y ho (fun j g z hj hq hz => ?_) hdv (fun j g ad bd hj hq ha hb => h2.other hj hq hv ad bd ha hb)
    obtain ⟨_, ho2, hd2⟩ := h2.2.1 j g z hq hz
    refine ho2.far hg fun ad e q => ?_
    obtain ⟨bd, hb, hbb⟩ := block_of q
    exact h2.other hj hq hv bd ad hb e hbb
  · obtain ⟨bd, hb, rfl⟩ := block_of e
    exact ⟨(hov.span bd hb).1, hL.2 i v bd hv hb⟩
end
/-- The marks that are laid: each one more than the one before. -/
def marksV (j : Nat) : List Vl → List Vl
  | [] => []
  | x :: t => ⟨((j : Nat) : Int), marksIntS (j + 1) x.items.length⟩ :: marksV (j + 1 + x.items.length) t
theorem marksV_len : ∀ (l : List Vl) (j : Nat), (marksV j l).length = l.length
  | [], _ => rfl
  | x :: t, j => by rw [marksV, List.length_cons, List.length_cons, marksV_len t]
theorem marksV_app : ∀ (l m : List Vl) (j : Nat), marksV j (l ++ m) = marksV j l ++ marksV (j + l.length + itemsOf l) m
  | [], m, j => by simp [marksV, itemsOf]
  | x :: t, m, j => by
    rw [List.cons_append, marksV, marksV_app t m, marksV, List.cons_append]
    congr 3
    simp only [itemsOf, List.length_cons, List.map_cons, List.sum_cons]
    omega
theorem marksV_take {l : List Vl} {j : Nat} {x : Vl} (k : Nat) (h : l[j]? = some x) : marksV k (l.take (j + 1)) = marksV k (l.take j) ++ [⟨((k + j + itemsOf (l.take j) : Nat) : Int), marksIntS (k + j + itemsOf (l.take j) + 1) x.items.length⟩] := by
  have hj := lt_of_some h
  rw [List.take_add_one, h, Option.toList_some, marksV_app, List.length_take, Nat.min_eq_left (by omega)]
  rfl
theorem marksV_at : ∀ {l : List Vl} {j : Nat} {x : Vl} (k : Nat), l[j]? = some x → (marksV k l)[j]? = some ⟨((k + j + itemsOf (l.take j) : Nat) : Int), marksIntS (k + j + itemsOf (l.take j) + 1) x.items.length⟩
  | [], j, x, k, h => by simp at h
  | y :: t, 0, x, k, h => by
    have : y = x := by simpa using h
    subst this
    simp [marksV, itemsOf]
  | y :: t, j + 1, x, k, h => by
    rw [marksV, List.getElem?_cons_succ, marksV_at _ (by simpa using h), List.take_succ_cons]
    have e : itemsOf (y :: t.take j) = y.items.length + itemsOf (t.take j) := by simp [itemsOf]
    rw [e]
    congr 2
    · omega
    · congr 1
      omega
theorem marksV_items : ∀ (l : List Vl) (j : Nat), itemsOf (marksV j l) = itemsOf l
  | [], _ => rfl
  | x :: t, j => by
    have := marksV_items t (j + 1 + x.items.length)
    unfold itemsOf at *
    rw [marksV, List.map_cons, List.map_cons, List.sum_cons, List.sum_cons, this, marksIntS_len]
theorem set_mid {α : Type} (A : List α) (p : Nat) (h : A.length = p) (x y : α) (R : List α) : (A ++ x :: R).set p y = A ++ y :: R := by
  subst h
  rw [List.set_append_right _ _ (Nat.le_refl _), Nat.sub_self, List.set_cons_zero]
theorem get_mid {α : Type} (A : List α) (p : Nat) (h : A.length = p) (x : α) (R : List α) : (A ++ x :: R)[p]? = some x := by
  subst h
  rw [List.getElem?_append_right (Nat.le_refl _), Nat.sub_self]
  rfl
theorem drop_at {l : List Vl} {j : Nat} {x : Vl} (h : l[j]? = some x) : l.drop j = x :: l.drop (j + 1) := by
  have hj := lt_of_some h
  rw [List.drop_eq_getElem_cons hj]
  rw [List.getElem?_eq_getElem hj] at h
  cases h
  rfl

end Go.Proofs.YtcmjadfpifpknaaGreat
namespace Go.Proofs.YtcmjadfpifpknaaGreat
open Go.ChangeShapes Go.WideShapes Go.ChangeAt Go.RowKit
set_option linter.unusedVariables false

/-- A value is this hello. -/
def HelW (w : World) (v : Value) (x : Hel) : Prop :=
  ∃ (a : Option Addr) (n c : Nat) (b : Option Addr) (m d : Nat), v = .agg #[.slice a n c, .slice b m d] ∧ Nums .i64 w a n x.vers ∧ Vals w b m x.exts ∧ (n ≤ c ∧ (c : Int) ≤ 9223372036854775807) ∧ m ≤ d ∧ (d : Int) ≤ 9223372036854775807
/-- A value is this answer. -/
def AnsW (w : World) (v : Value) (x : Ans) : Prop :=
  ∃ (b : Option Addr) (m d : Nat), v = .agg #[.int .i64 x.ver, .slice b m d] ∧ Vals w b m x.exts ∧ m ≤ d ∧ (d : Int) ≤ 9223372036854775807
/-- A value is this hello, in blocks of the call's own, all below S. -/
def OwnHel (S : Nat) (w : World) (B : Nat) (v : Value) (x : Hel) : Prop :=
  ∃ (a : Option Addr) (n c : Nat) (b : Option Addr) (m d lo hi lo' hi' : Nat), v = .agg #[.slice a n c, .slice b m d] ∧ Own .i64 3 w lo a n c x.vers ∧ OwnVB hi' 125 3 w lo' b m d x.exts ∧ Span a lo hi ∧ (B ≤ lo ∧ B ≤ lo') ∧ (hi ≤ S ∧ hi' ≤ S) ∧ (hi ≤ lo' ∨ hi' ≤ lo) ∧ S ≤ w.heap.size
/-- A value is this answer, in blocks of the call's own, all below S. -/
def OwnAns (S : Nat) (w : World) (B : Nat) (v : Value) (x : Ans) : Prop :=
  ∃ (b : Option Addr) (m d lo hi : Nat), v = .agg #[.int .i64 x.ver, .slice b m d] ∧ OwnVB hi 125 3 w lo b m d x.exts ∧ B ≤ lo ∧ hi ≤ S ∧ S ≤ w.heap.size
section
variable {S S' B B' lo hi : Nat} {w w' : World} {v : Value} {x : Hel} {y : Ans}
theorem HelW.same (h : HelW w v x) (hb : Below w.heap.size w w') : HelW w' v x := by
  obtain ⟨a, n, c, b, m, d, e, h1, h2, h3⟩ := h
  exact ⟨a, n, c, b, m, d, e, h1.same hb, h2.same hb, h3⟩
theorem AnsW.same (h : AnsW w v y) (hb : Below w.heap.size w w') : AnsW w' v y := by
  obtain ⟨b, m, d, e, h2, h3⟩ := h
  exact ⟨b, m, d, e, h2.same hb, h3⟩
theorem HelW.shape (h : HelW w v x) : ∃ (a : Option Addr) (n c : Nat) (b : Option Addr) (m d : Nat), v = .agg #[.slice a n c, .slice b m d] := by
  obtain ⟨a, n, c, b, m, d, e, _⟩ := h
  exact ⟨a, n, c, b, m, d, e⟩
theorem AnsW.shape (h : AnsW w v y) : ∃ (b : Option Addr) (m d : Nat), v = .agg #[.int .i64 y.ver, .slice b m d] := by
  obtain ⟨b, m, d, e, _⟩ := h
  exact ⟨b, m, d, e⟩
theorem HelW.parts (h : HelW w v x) : ∃ (a : Option Addr) (n c : Nat) (b : Option Addr) (m d : Nat), v = .agg #[.slice a n c, .slice b m d] ∧ (Nums .i64 w a n x.vers ∧ n ≤ c ∧ (c : Int) ≤ 9223372036854775807) ∧ Vals w b m x.exts ∧ m ≤ d ∧ (d : Int) ≤ 9223372036854775807 := by
  obtain ⟨a, n, c, b, m, d, e, h1, h2, h3, h4⟩ := h
  exact ⟨a, n, c, b, m, d, e, ⟨h1, h3⟩, h2, h4⟩
theorem OwnHel.hel (h : OwnHel S w B v x) : HelW w v x := by
  obtain ⟨a, n, c, b, m, d, l, k, l', k', e, h1, h2, _⟩ := h
  exact ⟨a, n, c, b, m, d, e, h1.nums, h2.vals, h1.room, h2.room⟩
theorem OwnAns.ans (h : OwnAns S w B v y) : AnsW w v y := by
  obtain ⟨b, m, d, l, k, e, h2, _⟩ := h
  exact ⟨b, m, d, e, h2.vals, h2.room⟩
theorem OwnHel.same (h : OwnHel S w B v x) (hb : Below w.heap.size w w') : OwnHel S w' B v x := by
  obtain ⟨a, n, c, b, m, d, l, k, l', k', e, h1, h2, h3, h4, h5, h6, h7⟩ := h
  exact ⟨a, n, c, b, m, d, l, k, l', k', e, h1.same hb, h2.same hb, h3, h4, h5, h6, Nat.le_trans h7 hb.size⟩
theorem OwnAns.same (h : OwnAns S w B v y) (hb : Below w.heap.size w w') : OwnAns S w' B v y := by
  obtain ⟨b, m, d, l, k, e, h2, h4, h5, h7⟩ := h
  exact ⟨b, m, d, l, k, e, h2.same hb, h4, h5, Nat.le_trans h7 hb.size⟩
theorem OwnHel.lower (h : OwnHel S w B v x) (hB : B' ≤ B) : OwnHel S w B' v x := by
  obtain ⟨a, n, c, b, m, d, l, k, l', k', e, h1, h2, h3, h4, h5, h6, h7⟩ := h
  exact ⟨a, n, c, b, m, d, l, k, l', k', e, h1, h2, h3, ⟨by omega, by omega⟩, h5, h6, h7⟩
theorem OwnAns.lower (h : OwnAns S w B v y) (hB : B' ≤ B) : OwnAns S w B' v y := by
  obtain ⟨b, m, d, l, k, e, h2, h4, h5, h7⟩ := h
  exact ⟨b, m, d, l, k, e, h2, by omega, h5, h7⟩
theorem OwnHel.aside (h : OwnHel S w B v x) (hg : Inside lo hi w w') (hd : hi ≤ B ∨ S ≤ lo) : OwnHel S w' B v x := by
  obtain ⟨a, n, c, b, m, d, l, k, l', k', e, h1, h2, h3, h4, h5, h6, h7⟩ := h
  exact ⟨a, n, c, b, m, d, l, k, l', k', e, h1.aside hg h3 (by omega), h2.aside hg (by omega), h3, h4, h5, h6, Nat.le_trans h7 hg.size⟩
theorem OwnAns.aside (h : OwnAns S w B v y) (hg : Inside lo hi w w') (hd : hi ≤ B ∨ S ≤ lo) : OwnAns S w' B v y := by
  obtain ⟨b, m, d, l, k, e, h2, h4, h5, h7⟩ := h
  exact ⟨b, m, d, l, k, e, h2.aside hg (by omega), h4, h5, Nat.le_trans h7 hg.size⟩
theorem OwnHel.shape (h : OwnHel S w B v x) : ∃ (a : Option Addr) (n c : Nat) (b : Option Addr) (m d : Nat), v = .agg #[.slice a n c, .slice b m d] := h.hel.shape
theorem OwnAns.shape (h : OwnAns S w B v y) : ∃ (b : Option Addr) (m d : Nat), v = .agg #[.int .i64 y.ver, .slice b m d] := h.ans.shape
theorem OwnHel.top (h : OwnHel S w B v x) (hS : S ≤ S') (hw : S' ≤ w.heap.size) : OwnHel S' w B v x := by
  obtain ⟨a, n, c, b, m, d, l, k, l', k', e, h1, h2, h3, h4, h5, h6, h7⟩ := h
  exact ⟨a, n, c, b, m, d, l, k, l', k', e, h1, h2, h3, h4, ⟨by omega, by omega⟩, h6, hw⟩
theorem OwnAns.top (h : OwnAns S w B v y) (hS : S ≤ S') (hw : S' ≤ w.heap.size) : OwnAns S' w B v y := by
  obtain ⟨b, m, d, l, k, e, h2, h4, h5, h7⟩ := h
  exact ⟨b, m, d, l, k, e, h2, h4, by omega, hw⟩
theorem HelW.of {a b : Option Addr} {n c m d : Nat} {l : List Int} {xs : List Vl} (h1 : Nums .i64 w a n l) (h2 : Vals w b m xs) (h3 : n ≤ c ∧ (c : Int) ≤ 9223372036854775807) (h4 : m ≤ d ∧ (d : Int) ≤ 9223372036854775807) : HelW w (.agg #[.slice a n c, .slice b m d]) ⟨l, xs⟩ := ⟨a, n, c, b, m, d, rfl, h1, h2, h3, h4⟩
end
/-- The two lists of a hello that lie in different parts of the call's own memory. -/
theorem own_hel {w : World} {B S lo hi lo' hi' n c m d : Nat} {a b : Option Addr} {l : List Int} {xs : List Vl} (h1 : Own .i64 3 w lo a n c l) (h2 : OwnVB hi' 125 3 w lo' b m d xs) (h3 : Span a lo hi) (h4 : B ≤ lo) (h5 : B ≤ lo') (h6 : hi ≤ S) (h7 : hi' ≤ S) (h8 : hi ≤ lo' ∨ hi' ≤ lo) (h9 : S ≤ w.heap.size) : OwnHel S w B (.agg #[.slice a n c, .slice b m d]) ⟨l, xs⟩ :=
  ⟨a, n, c, b, m, d, lo, hi, lo', hi', rfl, h1, h2, h3, ⟨h4, h5⟩, ⟨h6, h7⟩, h8, h9⟩
theorem own_ans {w : World} {B S lo hi m d : Nat} {b : Option Addr} {k : Int} {xs : List Vl} (h2 : OwnVB hi 125 3 w lo b m d xs) (h5 : B ≤ lo) (h7 : hi ≤ S) (h9 : S ≤ w.heap.size) : OwnAns S w B (.agg #[.int .i64 k, .slice b m d]) ⟨k, xs⟩ :=
  ⟨b, m, d, lo, hi, rfl, h2, h5, h7, h9⟩
theorem ownVB_nil {tO tI : TypeId} {w : World} {S B : Nat} : OwnVB S tO tI w B none 0 0 [] := ⟨[], OwnI.nil, ⟨rfl, fun j g x h => by simp at h, fun i j h k _ h' => by simp at h'⟩, ⟨fun ad e => (by cases e), fun j h ad h1 => (by simp at h1)⟩⟩
theorem no_hel {w : World} {B : Nat} (hB : B ≤ w.heap.size) : OwnHel w.heap.size w B (.agg #[.slice none 0 0, .slice none 0 0]) ⟨[], []⟩ :=
  own_hel (lo := B) (hi := B) (lo' := B) (hi' := B) Own.nil ownVB_nil Span.none (Nat.le_refl _) (Nat.le_refl _) hB hB (Or.inl (Nat.le_refl _)) (Nat.le_refl _)
theorem no_ans {w : World} {B : Nat} (hB : B ≤ w.heap.size) : OwnAns w.heap.size w B (.agg #[.int .i64 0, .slice none 0 0]) ⟨0, []⟩ :=
  own_ans (lo := B) (hi := B) ownVB_nil (Nat.le_refl _) hB (Nat.le_refl _)
/-- What a function leaves that makes a hello, or an answer. -/
def MadeHel (B : Nat) (x : Hel) (w : World) (e : Ending) (w' : World) : Prop := ∃ v, e = .returned v ∧ OwnHel w'.heap.size w' B v x ∧ Below B w w'
def MadeAns (B : Nat) (x : Ans) (w : World) (e : Ending) (w' : World) : Prop := ∃ v, e = .returned v ∧ OwnAns w'.heap.size w' B v x ∧ Below B w w'
def MadeHelB (B : Nat) (x : Hel) (o : Bool) (w : World) (e : Ending) (w' : World) : Prop := ∃ v, e = .returned (.tuple #[v, .bool o]) ∧ OwnHel w'.heap.size w' B v x ∧ Below B w w'
def MadeAnsB (B : Nat) (x : Ans) (o : Bool) (w : World) (e : Ending) (w' : World) : Prop := ∃ v, e = .returned (.tuple #[v, .bool o]) ∧ OwnAns w'.heap.size w' B v x ∧ Below B w w'
end Go.Proofs.YtcmjadfpifpknaaGreat
