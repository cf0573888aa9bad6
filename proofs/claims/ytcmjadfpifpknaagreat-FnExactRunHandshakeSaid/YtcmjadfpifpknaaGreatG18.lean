/- A list of extensions is written: by the program. Lists of lists of integers: what a walk is told of one that is read, and of one that the call itself has made, row by row. No function of the program is spoken of. A hello and an answer are written: by the program. A set of numbers as a map of the call's own: emptied and filled again, and asked for all numbers of a list. -/
import Derived.Test.YtcmjadfpifpknaaGreatG9
import Derived.Test.YtcmjadfpifpknaaGreatG10
import Derived.Test.YtcmjadfpifpknaaGreatG6
import Derived.Test.YtcmjadfpifpknaaGreatG17
import Derived.Test.YtcmjadfpifpknaaGreatG7
import Derived.Maps.Own
import Derived.MapKept
namespace Go.Proofs.YtcmjadfpifpknaaGreat
open Go.ChangeShapes Go.WideShapes Go.ChangeAt Go.RowKit
set_option linter.unusedVariables false
set_option linter.unusedSimpArgs false

def encW (l : List Vl) : List Int := if areX l = true then encX l else []
theorem encW_yes {l : List Vl} (h : areX l = true) : encW l = encX l := if_pos h
theorem encW_no {l : List Vl} (h : areX l = false) : encW l = [] := if_neg (by rw [h]; decide)
theorem encW_few (l : List Vl) : (encW l).length ≤ 37 := by
  cases h : areX l with
  | true => rw [encW_yes h]; exact encX_few h
  | false => rw [encW_no h]; simp
/-- What is left by a function that writes extensions. -/
def EncXT (tI : TypeId) (l : List Vl) (w : World) (e : Ending) (w' : World) : Prop :=
  ∃ q m d, e = .returned (.tuple #[.slice q m d, .bool (areX l)]) ∧ Own .i64 tI w' w.heap.size q m d (encW l) ∧ Below w.heap.size w w'
theorem Own.take_len {k : IntKind} {t : TypeId} {w : World} {B n c : Nat} {a : Option Addr} {l : List Int} (h : Own k t w B a n c l) {l' : List Int} (e : l = l') : Own k t w B a n c l' := by rw [← e]; exact h
set_option maxHeartbeats 4000000 in
set_option maxRecDepth 100000 in
theorem encodeExts_any {a : Option Addr} {n c : Nat} {l : List Vl} {w : World} (h : Vals w a n l) :
    Calls Tryz.prog 155 #[.slice a n c] w (EncXT 3 l w) := by
  have H := Lib.hid h
  have hln := Lib.hid h.len
  have hfit := h.fits
  obtain ⟨i0, hi, hz0, hz1, hz2⟩ := info_parts infoIntS
  have HI := Lib.hid (And.intro hi (And.intro hz0 (And.intro hz1 hz2)))
  clear hi hz0 hz1 hz2 h
  have HA := Lib.hid (areExts_any (c := c) (H.out.same (alloc_same w (.cells #[] 3))))
  have HO0 : Hid (Own .i64 3 (w.alloc (.cells #[] 3)) w.heap.size (some ⟨w.heap.size, 0, none⟩) 0 0 []) := Lib.hid (Own.empty (Nat.le_refl _))
  have HB0 : Hid (Below w.heap.size w (w.alloc (.cells #[] 3))) := Lib.hid (alloc_same _ _)
  unfold EncXT
  cases har : areX l with
  | false =>
    rw [har] at HA
    rw [encW_no har]
    clear har
    go_enter Tryz.func155, Tryz.ntmps155
    go_wp2_with fail
    refine HA.out.mono ?_
    rintro e w1 ⟨rfl, hb1⟩
    have HB1 := Lib.hid (HB0.out.trans (hb1.mono HB0.out.size))
    have HO1 := Lib.hid (HO0.out.same hb1)
    clear hb1 HA
    go_wp2_with fail
    go_ret2
    exact ⟨_, _, _, rfl, HO1.out, HB1.out⟩
  | true =>
    rw [har] at HA
    rw [encW_yes har]
    obtain ⟨hn6, hit⟩ := areX_few har
    rw [hln.out] at hn6
    clear har
    go_enter Tryz.func155, Tryz.ntmps155
    go_wp2_with fail
    refine HA.out.mono ?_
    rintro e w1 ⟨rfl, hb1⟩
    have HB1 := Lib.hid (HB0.out.trans (hb1.mono HB0.out.size))
    have HO1 := Lib.hid (HO0.out.same hb1)
    have hs1 := HB1.out.size
    clear hb1 HA
    go_wp2_with (at_builtin; refine wpl_app _ rfl (.tmp 12) (.tmp 15) 24 rfl .i64 3 i0 (.int .i64 0) 8 Tryz.underlying24 HI.out.1 HI.out.2.1 HI.out.2.2.1 HI.out.2.2.2 rfl rfl (HO1.out.alloc _) rfl (nums_new _ _ _ _) (by omega) ?c1 ?c2 ?_)
    case c1 => omega
    case c2 => simp; omega
    intro a2 c2 w2 ho2 hb2
    have HO2 : Hid (Own .i64 3 w2 w.heap.size a2 1 c2 ((n : Int) :: codesX (l.take 0))) := Lib.hid ho2
    have HB2 : Hid (Below w.heap.size w w2) := Lib.hid (HB1.out.trans (((alloc_same _ _).mono hs1).trans hb2))
    clear ho2 hb2
    go_wp2_with fail
    go_loopw [4, 19] (fun v i wr => ∃ (j : Nat) (q : Option Addr) (r e : Nat), j ≤ n ∧ i = .int .i64 j ∧ v = .slice q r e ∧ Own .i64 3 wr w.heap.size q r e ((n : Int) :: codesX (l.take j)) ∧ Below w.heap.size w wr) (fun _ i _ => n - (intOf i).toNat)
    case atStart => exact ⟨0, _, _, _, Nat.zero_le _, rfl, rfl, HO2.out, HB2.out⟩
    case round =>
      obtain ⟨j, q, r, e, hj, rfl, rfl, hown, hb⟩ := hrel
      have HOr := Lib.hid hown
      have HBr := Lib.hid hb
      clear hown hb
      by_cases hlt : j < n
      · obtain ⟨bb, o, p, pm, pd, k, y, rfl, hx, hd0, hd1, hN, hr⟩ := H.out.at_ hlt
        have hc0 := cell_stay hd0 HBr.out
        have hc1 := cell_stay hd1 HBr.out
        have hsz := HBr.out.size
        have hym := hN.len
        have hyi := itemsOf_mem hx
        dsimp only at hyi
        have hpm : pm ≤ 24 := by omega
        have hrl : r ≤ 37 := by
          have h1 := HOr.out.len
          have h2 := itemsOf_le l j
          rw [List.length_cons, codesX_len, List.length_take] at h1
          omega
        have HX : Hid ((n : Int) :: codesX (l.take (j + 1)) = ((n : Int) :: codesX (l.take j) ++ [k]) ++ ((pm : Int) :: y)) := Lib.hid (by rw [codesX_take hx]; simp [codeX, hym])
        have hb0 := alloc_same wr (.cells #[.int .i64 k, .slice p pm pd] 125)
        have hw0 := heap_alloc_new wr (.cells #[.int .i64 k, .slice p pm pd] 125)
        have C0 := Lib.hid ((block_cell hw0 0).trans rfl)
        have C1 := Lib.hid ((block_cell hw0 1).trans rfl)
        have HBW := Lib.hid (HBr.out.trans (hb0.mono hsz))
        have HOW := Lib.hid (HOr.out.same hb0)
        have HOFF := Lib.hid (own_off (n := r) (c := e) HOr.out.span (Nat.le_refl _))
        have HV : Hid (∀ w9, Below w.heap.size w w9 → Nums .i64 w9 p pm y) := Lib.hid (fun w9 h9 => hN.same h9)
        clear hx hN hb0 hw0 hym hyi hd0 hd1
        go_wp2_with fail
        have hlt0 : wr.heap.size < (wr.alloc (.cells #[.int .i64 k, .slice p pm pd] 125)).heap.size := by simp
        generalize wr.alloc (.cells #[.int .i64 k, .slice p pm pd] 125) = W0 at *
        have HQ : Hid (Below W0.heap.size W0 (W0.alloc (.cells #[.int .i64 k] 3)).drew) := Lib.hid (alloc_same _ _).drew
        have HOQ : Hid (Own .i64 3 (W0.alloc (.cells #[.int .i64 k] 3)).drew w.heap.size q r e ((n : Int) :: codesX (l.take j))) := Lib.hid (HOW.out.same HQ.out)
        have HNQ : Hid (Nums .i64 (W0.alloc (.cells #[.int .i64 k] 3)).drew (some ⟨W0.heap.size, 0, none⟩) 1 [k]) := Lib.hid ((nums_new _ _ _ _).same (Below.refl _ _).drew)
        have hsW : w.heap.size ≤ W0.heap.size := HBW.out.size
        have HBQ : Hid (Below w.heap.size w (W0.alloc (.cells #[.int .i64 k] 3)).drew) := Lib.hid (HBW.out.trans (HQ.out.mono hsW))
        have hsQ : w.heap.size ≤ (W0.alloc (.cells #[.int .i64 k] 3)).drew.heap.size := HBQ.out.size
        have hltQ : wr.heap.size < (W0.alloc (.cells #[.int .i64 k] 3)).drew.heap.size := Nat.lt_of_lt_of_le hlt0 HQ.out.size
        go_region_held3 (fun w9 => w9.cell? ⟨wr.heap.size, 0, none⟩ = some (.int .i64 k) ∧ w9.cell? ⟨wr.heap.size, 1, none⟩ = some (.slice p pm pd)) (first | exact ⟨cell_stay C0.out (Below.refl _ _).drew, cell_stay C1.out (Below.refl _ _).drew⟩ | exact ⟨cell_stay C0.out HQ.out, cell_stay C1.out HQ.out⟩ | exact HC3.out | exact HC4.out) ((first | (refine step_app_g _ (by rfl) (.tmp 23) (.tmp 26) 24 (by rfl) .i64 3 i0 (.int .i64 0) 8 Tryz.underlying24 HI.out.1 HI.out.2.1 HI.out.2.2.1 HI.out.2.2.2 rfl (by rfl) HOQ.out (by rfl) HNQ.out (by omega) (by omega) hsQ ?_; intro a3 c3 w3 ho3 hg3 hl3; have HO3 := Lib.hid ho3; have HB3 : Hid (Below w.heap.size w w3) := Lib.hid (grown_to hg3 HBQ.out HOQ.out.span (Nat.le_refl _) hsQ); have HC3 := Lib.hid (And.intro (cell_off (cell_stay C0.out HQ.out) hg3 HOFF.out) (cell_off (cell_stay C1.out HQ.out) hg3 HOFF.out)); have HOFF3 := Lib.hid (off3 (n' := r + 1) (c' := c3) HOFF.out hl3 hltQ); have hs3 : w.heap.size ≤ w3.heap.size := HB3.out.size; clear ho3 hg3 hl3) | (go_at_call 169; refine (writeItems_any w.heap.size a3 (r + 1) c3 _ 0 p pm pd y w3 HO3.out (fun w9 h9 => HV.out w9 (HB3.out.trans h9)) hs3 (by omega) (by omega)).mono ?_; rintro e4 w4 ⟨a4, n4, c4, rfl, ho4, hg4⟩; have HO4 := Lib.hid ho4; have HB4 : Hid (Below w.heap.size w w4) := Lib.hid (grown_to hg4 HB3.out HO3.out.span (Nat.le_refl _) hs3); have HC4 := Lib.hid (And.intro (cell_off HC3.out.1 hg4 HOFF3.out) (cell_off HC3.out.2 hg4 HOFF3.out)); clear ho4 hg4)))
        go_wp2_with fail
        go_roundw
        case rel => exact ⟨j + 1, a4, n4, c4, by omega, by go_num, rfl, by rw [HX.out]; exact HO4.out, HB4.out⟩
        case measure => simp [intOf]; omega
      · obtain rfl : j = n := by omega
        go_wp2_with fail
        go_ret2
        have h1 := HOr.out
        rw [List.take_of_length_le (by rw [hln.out]; omega)] at h1
        refine ⟨_, _, _, rfl, h1.take_len ?_, HBr.out⟩
        unfold encX
        rw [hln.out]
end Go.Proofs.YtcmjadfpifpknaaGreat
namespace Go.Proofs.YtcmjadfpifpknaaGreat
open Go.ChangeShapes Go.WideShapes Go.ChangeAt Go.RowKit
set_option linter.unusedVariables false

theorem lt_ofL {α : Type} {l : List α} {j : Nat} {x : α} (h : l[j]? = some x) : j < l.length := by
  rcases Nat.lt_or_ge j l.length with q | q
  · exact q
  · rw [List.getElem?_eq_none q] at h; cases h
/-- From a on lie n lists of integers: the list l. -/
structure Rws (w : World) (a : Option Addr) (n : Nat) (l : List (List Int)) : Prop where
  len : l.length = n
  fits : (n : Int) ≤ 9223372036854775807
  cell : ∀ j x, l[j]? = some x → ∃ ad p m c, a = some ad ∧ w.cell? (ad.add j) = some (.slice p m c) ∧ Nums .i64 w p m x ∧ m ≤ c ∧ (c : Int) ≤ 9223372036854775807
theorem Rws.nothing {w : World} : Rws w none 0 [] := ⟨rfl, by omega, fun j x h => by simp at h⟩
theorem Rws.same {w w' : World} {a : Option Addr} {n : Nat} {l : List (List Int)} (h : Rws w a n l) (hb : Below w.heap.size w w') : Rws w' a n l :=
  ⟨h.len, h.fits, fun j x hj => by
    obtain ⟨ad, p, m, c, e, h0, h1, h2⟩ := h.cell j x hj
    exact ⟨ad, p, m, c, e, cell_stay h0 hb, h1.same hb, h2⟩⟩
theorem Rws.at_ {w : World} {a : Option Addr} {n : Nat} {l : List (List Int)} (h : Rws w a n l) {j : Nat} (hj : j < n) : ∃ ad p m c y, a = some ad ∧ l[j]? = some y ∧ w.cell? (ad.add j) = some (.slice p m c) ∧ Nums .i64 w p m y ∧ m ≤ c ∧ (c : Int) ≤ 9223372036854775807 := by
  have hl : j < l.length := by rw [h.len]; exact hj
  obtain ⟨ad, p, m, c, e, h1⟩ := h.cell j _ (List.getElem?_eq_getElem hl)
  exact ⟨ad, p, m, c, _, e, List.getElem?_eq_getElem hl, h1⟩
/-- How many integers the lists hold. -/
def numsOf (l : List (List Int)) : Nat := (l.map List.length).sum
theorem numsOf_at {l : List (List Int)} {j : Nat} {x : List Int} (h : l[j]? = some x) : numsOf (l.take (j + 1)) = numsOf (l.take j) + x.length := by
  unfold numsOf
  rw [List.take_add_one, h]
  simp
theorem numsOf_le (l : List (List Int)) (j : Nat) : numsOf (l.take j) ≤ numsOf l := by
  conv => rhs; rw [← List.take_append_drop j l]
  unfold numsOf
  rw [List.map_append, List.sum_append]
  omega
theorem numsOf_mem {l : List (List Int)} {x : List Int} (h : x ∈ l) : x.length ≤ numsOf l := by
  obtain ⟨j, hj⟩ := List.mem_iff_getElem?.1 h
  have h1 := numsOf_at hj
  have h2 := numsOf_le l (j + 1)
  omega

/-- A list as it lies in a row: where its integers lie. -/
structure Rh where
  p : Option Addr
  m : Nat
  c : Nat
def Rh.enc (x : Rh) : List Value := [.slice x.p x.m x.c]
theorem Rh.enc_len (x : Rh) : x.enc.length = 1 := rfl
theorem Rh.one (x : Rh) : ∀ u ∈ x.enc, u.oneCell' = true := by
  intro u hu
  simp only [Rh.enc, List.mem_cons, List.not_mem_nil, or_false] at hu
  rcases hu with rfl
  rfl
/-- The integers of each list lie in memory of the call's own, in blocks from B on and below S, apart from the others' and from the row. -/
def RowsL (S : Nat) (w : World) (B : Nat) (a : Option Addr) (hs : List Rh) (l : List (List Int)) : Prop :=
  hs.length = l.length ∧
  (∀ (j : Nat) (h : Rh) (x : List Int), hs[j]? = some h → l[j]? = some x → Own .i64 3 w B h.p h.m h.c x ∧ ∀ ad, h.p = some ad → ad.block < S ∧ ∀ bd, a = some bd → ad.block ≠ bd.block) ∧
  ∀ (i j : Nat) (h k : Rh), i < j → hs[i]? = some h → hs[j]? = some k → ∀ ad bd, h.p = some ad → k.p = some bd → ad.block ≠ bd.block
/-- The list of lists is the call's own, in blocks from B on and below S. -/
def OwnL (S : Nat) (w : World) (B : Nat) (a : Option Addr) (n c : Nat) (l : List (List Int)) : Prop :=
  ∃ hs : List Rh, OwnI Rh.enc 1 24 w B a n c hs ∧ RowsL S w B a hs l ∧ (∀ ad, a = some ad → ad.block < S) ∧ S ≤ w.heap.size
section
variable {w w' : World} {B S n c : Nat} {a : Option Addr} {l : List (List Int)} {hs : List Rh}
theorem Own.farL {k : IntKind} {t : TypeId} {p : Option Addr} {m d : Nat} {y : List Int} {row : Option Nat} (h : Own k t w B p m d y) (hg : w.grownBy w' row) (hr : ∀ ad, p = some ad → row ≠ some ad.block) : Own k t w' B p m d y := by
  cases p with
  | none => exact ⟨h.1, h.2.kept hg (Or.inl rfl)⟩
  | some ad =>
    refine ⟨h.1, h.2.kept hg (Or.inr ?_)⟩
    have h1 := hr ad rfl
    cases row with
    | none => simp [Value.ownBlock]
    | some r =>
      simp only [ne_eq, Option.some.injEq] at h1
      simp only [Value.ownBlock, ne_eq, Option.some.injEq]
      omega
theorem OwnI.farL {α : Type} {enc : α → List Value} {s : Nat} {t : TypeId} {m d : Nat} {p : Option Addr} {y : List α} {row : Option Nat} (h : OwnI enc s t w B p m d y) (hg : w.grownBy w' row) (hr : ∀ ad, p = some ad → row ≠ some ad.block) : OwnI enc s t w' B p m d y := by
  cases p with
  | none => exact ⟨h.1, h.2.kept hg (Or.inl rfl)⟩
  | some ad =>
    refine ⟨h.1, h.2.kept hg (Or.inr ?_)⟩
    have h1 := hr ad rfl
    cases row with
    | none => simp [Value.ownBlock]
    | some r =>
      simp only [ne_eq, Option.some.injEq] at h1
      simp only [Value.ownBlock, ne_eq, Option.some.injEq]
      omega
theorem OwnL.len (h : OwnL S w B a n c l) : l.length = n := by
  obtain ⟨hs, h1, h2, _⟩ := h
  rw [← h2.1, h1.len]
theorem OwnL.room (h : OwnL S w B a n c l) : n ≤ c ∧ (c : Int) ≤ 9223372036854775807 := by
  obtain ⟨hs, h1, _⟩ := h
  exact h1.room
theorem OwnL.top (h : OwnL S w B a n c l) : S ≤ w.heap.size := by
  obtain ⟨hs, _, _, _, h4⟩ := h
  exact h4
theorem OwnL.rws (h : OwnL S w B a n c l) : Rws w a n l := by
  have hl := h.len
  have hr := h.room
  obtain ⟨hs, h1, h2, _⟩ := h
  refine ⟨hl, by omega, fun j x hx => ?_⟩
  have hj : j < hs.length := by rw [h2.1]; exact lt_ofL hx
  obtain ⟨b, o, g, e, hg, hc⟩ := (h1.items Rh.enc_len).at_ (j := j) (by rw [← h1.len]; exact hj)
  obtain ⟨ho, _⟩ := h2.2.1 j g x hg hx
  refine ⟨⟨b, o, none⟩, g.p, g.m, g.c, e, ?_, ho.nums, ho.room⟩
  have h3 := hc 0 _ rfl
  have e2 : (⟨b, o, none⟩ : Addr).add j = ⟨b, o + j * 1 + 0, none⟩ := by
    unfold Addr.add
    by_cases hq : j = 0 <;> simp [hq]
  rw [e2]
  exact h3
theorem OwnL.far {row : Option Nat} (h : OwnL S w B a n c l) (hg : w.grownBy w' row) (hr : ∀ r, row = some r → r < B ∨ S ≤ r) : OwnL S w' B a n c l := by
  obtain ⟨hs, h1, h2, h3, h4⟩ := h
  have hne : ∀ x, B ≤ x → x < S → row ≠ some x := fun x hx hy e => by
    rcases hr x e with q | q <;> omega
  refine ⟨hs, h1.farL hg fun ad e => hne _ (h1.span ad e).1 (h3 ad e), ⟨h2.1, fun j g x hk hx => ?_, h2.2.2⟩, h3, Nat.le_trans h4 hg.size⟩
  obtain ⟨ho, hd⟩ := h2.2.1 j g x hk hx
  exact ⟨ho.farL hg fun ad e => hne _ (ho.span ad e).1 (hd ad e).1, hd⟩
theorem OwnL.same (h : OwnL S w B a n c l) (hb : Below w.heap.size w w') : OwnL S w' B a n c l := h.far (grown_below hb none) fun r e => by cases e
theorem OwnL.lower (h : OwnL S w B a n c l) {B' : Nat} (hB : B' ≤ B) : OwnL S w B' a n c l := by
  obtain ⟨hs, h1, h2, h3⟩ := h
  exact ⟨hs, h1.lower hB, ⟨h2.1, fun j g x q1 q2 => by
    obtain ⟨ho, hd⟩ := h2.2.1 j g x q1 q2
    exact ⟨ho.lower hB, hd⟩, h2.2.2⟩, h3⟩
theorem OwnL.upper {S' : Nat} (h : OwnL S w B a n c l) (h1 : S ≤ S') (h2 : S' ≤ w.heap.size) : OwnL S' w B a n c l := by
  obtain ⟨hs, k1, k2, k3, k4⟩ := h
  exact ⟨hs, k1, ⟨k2.1, fun j g x q1 q2 => by
    obtain ⟨ho, hd⟩ := k2.2.1 j g x q1 q2
    exact ⟨ho, fun ad e => ⟨Nat.lt_of_lt_of_le (hd ad e).1 h1, (hd ad e).2⟩⟩, k2.2.2⟩, fun ad e => Nat.lt_of_lt_of_le (k3 ad e) h1, h2⟩
theorem OwnL.empty (hB : B ≤ w.heap.size) : OwnL (w.heap.size + 1) (w.alloc (.cells #[] 24)) B (some ⟨w.heap.size, 0, none⟩) 0 0 [] :=
  ⟨[], ⟨rfl, World.ownsRow_lit w #[] 0 hB (by unfold maxLen; omega) (by simp)⟩, ⟨rfl, fun j g x h => by simp at h, fun i j h k _ h' => by simp at h'⟩, fun ad e => by cases e; exact Nat.lt_succ_self _, by simp⟩
theorem RowsL.other (h : RowsL S w B a hs l) {i j : Nat} {g k : Rh} (hij : j ≠ i) (hj : hs[j]? = some g) (hi : hs[i]? = some k) : ∀ ad bd, k.p = some ad → g.p = some bd → ad.block ≠ bd.block := fun ad bd ha hb q => by
  rcases Nat.lt_or_ge i j with e | e
  · exact h.2.2 i j k g e hi hj ad bd ha hb q
  · exact h.2.2 j i g k (by omega) hj hi bd ad hb ha q.symm
theorem flatRh_set : ∀ (hs : List Rh) (i : Nat) (g : Rh), i < hs.length → (flatOf Rh.enc hs).set i (.slice g.p g.m g.c) = flatOf Rh.enc (hs.set i g)
  | [], i, g, h => by simp at h
  | y :: t, 0, g, h => by simp [flatOf, Rh.enc]
  | y :: t, i + 1, g, h => by
    have ih := flatRh_set t i g (by simpa using h)
    have e : flatOf Rh.enc (y :: t) = .slice y.p y.m y.c :: flatOf Rh.enc t := by simp [flatOf, Rh.enc]
    rw [e, List.set_cons_succ, ih, List.set_cons_succ]
    simp [flatOf, Rh.enc]
theorem set_grownL (w : World) (b o : Nat) (v : Value) : w.grownBy (w.setCell ⟨b, o, none⟩ v) (some b) :=
  ⟨rfl, rfl, rfl, ((Below.refl 0 w).setCell (Nat.zero_le _) v).size, fun i hi hne => Below.heap_setCell _ _ _ _ (fun e => hne (by rw [e]))⟩
/-- List i is another one, in the same block or in a new one: its header is stored. -/
theorem OwnL.put {u : World} {g : Nat} (hi : OwnI Rh.enc 1 24 u B (some ⟨g, 0, none⟩) n c hs) (hr : RowsL S u B (some ⟨g, 0, none⟩) hs l) (hgS : g < S) (hS : S ≤ u.heap.size) {i : Nat} {x : List Int} {v : Rh} (hx : l[i]? = some x) (hv : hs[i]? = some v)
    {p : Option Addr} {m d : Nat} {y : List Int} (hg : u.grownBy w (Value.ownBlock (.slice v.p v.m v.c))) (ho : Own .i64 3 w B p m d y) (hp : ∀ ad, p = some ad → (∃ bd, v.p = some bd ∧ bd.block = ad.block) ∨ u.heap.size ≤ ad.block) :
    OwnL w.heap.size (w.setCell ⟨g, i, none⟩ (.slice p m d)) B (some ⟨g, 0, none⟩) n c (l.set i y) ∧ w.grownBy (w.setCell ⟨g, i, none⟩ (.slice p m d)) (some g) := by
  have hgs := hi.span _ rfl
  dsimp only at hgs
  have hsz := hg.size
  have hih : i < hs.length := by rw [hr.1]; exact lt_ofL hx
  obtain ⟨hov, hdv⟩ := hr.2.1 i v x hv hx
  have hrow : ∀ ad, Value.ownBlock (.slice v.p v.m v.c) = some ad → ∃ bd, v.p = some bd ∧ bd.block = ad := fun ad e => by
    cases hvp : v.p with
    | none => rw [hvp] at e; simp [Value.ownBlock] at e
    | some bd => rw [hvp] at e; simp only [Value.ownBlock, Option.some.injEq] at e; exact ⟨bd, rfl, e⟩
  have h1 : OwnI Rh.enc 1 24 w B (some ⟨g, 0, none⟩) n c hs := hi.farL hg fun ad e e2 => by
    cases e
    obtain ⟨bd, hb, hbb⟩ := hrow _ e2
    exact (hdv bd hb).2 _ rfl hbb
  have h3 := h1.2.stored i (.slice p m d)
  rw [flatRh_set hs i ⟨p, m, d⟩ hih] at h3
  have hsz3 := h3.2.size
  have hpg : ∀ ad, p = some ad → ad.block ≠ g := fun ad e q => by
    rcases hp ad e with ⟨bd, hb, hbb⟩ | hlt
    · exact (hdv bd hb).2 _ rfl (by rw [hbb]; exact q)
    · omega
  refine ⟨⟨hs.set i ⟨p, m, d⟩, ⟨by rw [List.length_set]; exact h1.len, h3.1⟩, ⟨by rw [List.length_set, List.length_set]; exact hr.1, fun j q z hq hz => ?_, fun j j' q q' hjj hq hq' ad bd ha hb => ?_⟩, fun ad e => by cases e; exact (by omega : g < w.heap.size), hsz3⟩, h3.2⟩
  · by_cases e : j = i
    · subst e
      rw [List.getElem?_set_self hih] at hq
      rw [List.getElem?_set_self (by rw [← hr.1]; exact hih)] at hz
      cases hq
      cases hz
      refine ⟨ho.farL h3.2 fun ad e2 e3 => hpg ad e2 (by simpa using e3.symm), fun ad e2 => ⟨(ho.span ad e2).2, fun bd hb => by cases hb; exact hpg ad e2⟩⟩
    · rw [List.getElem?_set_ne (by omega)] at hq hz
      obtain ⟨ho2, hd2⟩ := hr.2.1 j q z hq hz
      refine ⟨(ho2.farL hg fun ad e2 e3 => ?_).farL h3.2 fun ad e2 e3 => (hd2 ad e2).2 _ rfl (by simpa using e3.symm), fun ad e2 => ⟨by have := (hd2 ad e2).1; omega, (hd2 ad e2).2⟩⟩
      obtain ⟨bd, hb, hbb⟩ := hrow _ e3
      exact hr.other e hq hv bd ad hb e2 hbb
  · have key : ∀ (jj : Nat) (k : Rh) (cd dd : Addr), jj ≠ i → hs[jj]? = some k → k.p = some cd → p = some dd → dd.block ≠ cd.block := fun jj k cd dd hne hk hc hd => by
      have hjl : jj < l.length := by rw [← hr.1]; exact lt_ofL hk
      rcases hp dd hd with ⟨bd2, hb2, hbb⟩ | hlt
      · rw [← hbb]
        exact hr.other hne hk hv bd2 cd hb2 hc
      · have := ((hr.2.1 jj k _ hk (List.getElem?_eq_getElem hjl)).2 cd hc).1
        omega
    by_cases e : j = i
    · subst e
      rw [List.getElem?_set_self hih] at hq
      rw [List.getElem?_set_ne (by omega)] at hq'
      cases hq
      exact key j' q' bd ad (by omega) hq' hb ha
    · rw [List.getElem?_set_ne (by omega)] at hq
      by_cases e' : j' = i
      · subst e'
        rw [List.getElem?_set_self hih] at hq'
        cases hq'
        exact fun q3 => key j q ad bd e hq ha hb q3.symm
      · rw [List.getElem?_set_ne (by omega)] at hq'
        exact hr.2.2 j j' q q' hjj hq hq' ad bd ha hb
end
section
variable {P : Program} (w : World)
/-- A list is appended to a list of lists of the call's own. -/
theorem run_appL (t ty e : TypeId) (he : e = 24) (i : TypeInfo) (z : Value) (bytes : Nat) (ht : P.underlying t = some (.slice e)) (hi : P.info? e = some i) (hz : i.zero = some z) (hsize : i.size = 1) (hby : i.bytes = bytes) (hzs : z.cells.size = 1)
    {S B n c m d b o dd : Nat} {a p : Option Addr} {l : List (List Int)} {y : List Int} (ho : OwnL S w B a n c l) (hn : Items Rh.enc 1 w (some ⟨b, o, none⟩) 1 [⟨p, m, d⟩]) (hv : Own .i64 3 w B p m d y) (hf : ∀ ad, p = some ad → S ≤ ad.block)
    (hbytes : (n + 1) * bytes ≤ 140737488355328) (h63 : n + 1 ≤ maxLen) (hB : B ≤ w.heap.size) :
    ∃ a' c' w', (Builtin.append_ #[t, t] ty #[.slice a n c, .slice (some ⟨b, o, none⟩) 1 dd]).run P w = .ok (.slice a' (n + 1) c') w' ∧ OwnL w'.heap.size w' B a' (n + 1) c' (l ++ [y]) ∧ Below B w w' ∧ w.grownBy w' (Value.ownBlock (.slice a n c)) := by
  subst he
  obtain ⟨hs, h1, h2, h3, h4⟩ := ho
  obtain ⟨v', w', hr, q1, q2, _, q3⟩ := run_append_own_at (P := P) w B t ty 24 i z 1 bytes ht hi hz hsize hby hzs (by omega) (.slice a n c) n (flatOf Rh.enc hs) h1.2 ⟨b, o, none⟩ 1 dd (flatOf Rh.enc [⟨p, m, d⟩]) (by rw [flatOf_len Rh.enc_len]; rfl) (items_flat Rh.enc_len (by omega) hn) (fun u hu => by
      obtain ⟨x, _, hx⟩ := List.mem_flatMap.1 hu
      exact Rh.one x u hx) h63 hbytes hB
  rw [← flatOf_app] at q1
  have hsz := q2.size
  have hl : (hs ++ [(⟨p, m, d⟩ : Rh)]).length = n + 1 := by rw [List.length_append, h1.1]; rfl
  have hbw : Below B w w' := grown_to q2 (Below.refl B w) h1.span (Nat.le_refl _) hB
  rcases q1.2 with ⟨rfl, hn'⟩ | ⟨g, cap, cur, rfl, hrest⟩
  · omega
  · have hgb : (∃ bd, a = some bd ∧ bd.block = g) ∨ g = w.heap.size := by
      rcases q3 with e | e
      · left
        cases ha : a with
        | none => rw [ha] at e; simp [Value.ownBlock] at e
        | some bd => rw [ha] at e; simp only [Value.ownBlock, Option.some.injEq] at e; exact ⟨bd, rfl, e.symm⟩
      · right
        simpa [Value.ownBlock] using e
    have hrow : ∀ ad, Value.ownBlock (.slice a n c) = some ad → ∃ bd, a = some bd ∧ bd.block = ad := fun ad e => by
      cases hvp : a with
      | none => rw [hvp] at e; simp [Value.ownBlock] at e
      | some bd => rw [hvp] at e; simp only [Value.ownBlock, Option.some.injEq] at e; exact ⟨bd, rfl, e⟩
    have hpa : ∀ ad bd, p = some ad → a = some bd → ad.block ≠ bd.block := fun ad bd ha hb => by
      have := hf ad ha
      have := h3 bd hb
      omega
    have hpg : ∀ ad, p = some ad → ad.block ≠ g := fun ad ha => by
      rcases hgb with ⟨bd, hb, e⟩ | e
      · rw [← e]; exact hpa ad bd ha hb
      · have := (hv.span ad ha).2
        omega
    have hgw : g < w'.heap.size := by
      have := q1.lt g rfl
      exact this.2
    refine ⟨_, cap, w', hr, ⟨_, ⟨hl, q1⟩, ⟨by rw [List.length_append, List.length_append, h2.1]; rfl, fun j v x hj hx => ?_, fun j j' v v' hjj hj hj' ad bd ha hb => ?_⟩, fun ad e => by cases e; exact hgw, Nat.le_refl _⟩, hbw, q2⟩
    · rcases Nat.lt_or_ge j hs.length with q | q
      · rw [List.getElem?_append_left q] at hj
        rw [List.getElem?_append_left (by rw [← h2.1]; exact q)] at hx
        obtain ⟨ho1, hd1⟩ := h2.2.1 j v x hj hx
        refine ⟨ho1.farL q2 fun ad e e3 => ?_, fun ad ha => ⟨by have := (hd1 ad ha).1; omega, fun bd hb => ?_⟩⟩
        · obtain ⟨bd, hb, hbb⟩ := hrow _ e3
          exact (hd1 ad e).2 bd hb hbb.symm
        · cases hb
          rcases hgb with ⟨cd, hc, e⟩ | e
          · have := (hd1 ad ha).2 cd hc
            rw [e] at this
            exact this
          · have := (hd1 ad ha).1
            dsimp only
            omega
      · obtain rfl : j = hs.length := by have := lt_ofL hj; rw [List.length_append] at this; simp at this; omega
        rw [List.getElem?_append_right (Nat.le_refl _), Nat.sub_self] at hj
        rw [List.getElem?_append_right (by rw [h2.1]; exact Nat.le_refl _), h2.1, Nat.sub_self] at hx
        cases hj
        cases hx
        refine ⟨hv.farL q2 fun ad e e3 => ?_, fun ad ha => ⟨by have := (hv.span ad ha).2; omega, fun bd hb => by cases hb; exact hpg ad ha⟩⟩
        obtain ⟨bd, hb, hbb⟩ := hrow _ e3
        exact hpa ad bd e hb hbb.symm
    · have hjl : j < hs.length := by have := lt_ofL hj'; rw [List.length_append] at this; simp at this; omega
      rw [List.getElem?_append_left hjl] at hj
      rcases Nat.lt_or_ge j' hs.length with q | q
      · rw [List.getElem?_append_left q] at hj'
        exact h2.2.2 j j' v v' hjj hj hj' ad bd ha hb
      · obtain rfl : j' = hs.length := by have := lt_ofL hj'; rw [List.length_append] at this; simp at this; omega
        rw [List.getElem?_append_right (Nat.le_refl _), Nat.sub_self] at hj'
        cases hj'
        have := ((h2.2.1 j v _ hj (List.getElem?_eq_getElem (by rw [← h2.1]; exact hjl))).2 ad ha).1
        have := hf bd hb
        omega
theorem wpl_appL {ops : Array Oper} {rest : List Oper} {o : Oper} {act : Act} {Q : Exit → Act → World → Prop} (hgd : o.guard = none) (q x : Operand) (t : TypeId)
    (ho : o.op = .call { callee := .builtin .append, args := #[q, x], argTypes := #[t, t] })
    (e : TypeId) (he : e = 24) (i : TypeInfo) (z : Value) (bytes : Nat) (ht : P.underlying t = some (.slice e)) (hi : P.info? e = some i) (hz : i.zero = some z) (hsize : i.size = 1) (hby : i.bytes = bytes) (hzs : z.cells.size = 1)
    {S B n c m d b off dd : Nat} {a p : Option Addr} {l : List (List Int)} {y : List Int} (hq : act.eval q = .slice a n c) (hown : OwnL S w B a n c l) (hx : act.eval x = .slice (some ⟨b, off, none⟩) 1 dd) (hnew : Items Rh.enc 1 w (some ⟨b, off, none⟩) 1 [⟨p, m, d⟩]) (hv : Own .i64 3 w B p m d y) (hf : ∀ ad, p = some ad → S ≤ ad.block)
    (hb1 : 0 < bytes) (hbytes : (n + 1) * bytes ≤ 140737488355328) (hB : B ≤ w.heap.size)
    (h : ∀ a' c' w', OwnL w'.heap.size w' B a' (n + 1) c' (l ++ [y]) → Below B w w' → w.grownBy w' (Value.ownBlock (.slice a n c)) → wpList P ops Q rest (act.put o.dst (.slice a' (n + 1) c')) w') : wpList P ops Q (o :: rest) act w := by
  refine wpList_plain hgd fun K hK => ?_
  have h63 : n + 1 ≤ maxLen := by
    have := Nat.mul_le_mul_left (n + 1) hb1
    unfold maxLen
    omega
  obtain ⟨a', c', w', hr, h2, h3, h4⟩ := run_appL (P := P) (dd := dd) w t o.type e he i z bytes ht hi hz hsize hby hzs hown hnew hv hf hbytes h63 hB
  unfold Oper.wp execOp
  simp only [ho, resolve, invoke, builtin, Sem.run_bind, Sem.run_pure, Result.andThen_ok, List.map_toArray, List.map_cons, List.map_nil, hq, hx, hr]
  exact hK _ _ (h a' c' w' h2 h3 h4)
/-- The same at a step of a region that draws its order. -/
theorem step_appL {ops : Array Oper} {o : Oper} {act : Act} {K : Act → World → Prop} {Q : Exit → Act → World → Prop} {E : Prop} (hgd : o.guard = none) (q x : Operand) (t : TypeId)
    (ho : o.op = .call { callee := .builtin .append, args := #[q, x], argTypes := #[t, t] })
    (e : TypeId) (he : e = 24) (i : TypeInfo) (z : Value) (bytes : Nat) (ht : P.underlying t = some (.slice e)) (hi : P.info? e = some i) (hz : i.zero = some z) (hsize : i.size = 1) (hby : i.bytes = bytes) (hzs : z.cells.size = 1)
    {S B n c m d b off dd : Nat} {a p : Option Addr} {l : List (List Int)} {y : List Int} (hq : act.eval q = .slice a n c) (hown : OwnL S w B a n c l) (hx : act.eval x = .slice (some ⟨b, off, none⟩) 1 dd) (hnew : Items Rh.enc 1 w (some ⟨b, off, none⟩) 1 [⟨p, m, d⟩]) (hv : Own .i64 3 w B p m d y) (hf : ∀ ad, p = some ad → S ≤ ad.block)
    (hb1 : 0 < bytes) (hbytes : (n + 1) * bytes ≤ 140737488355328) (hB : B ≤ w.heap.size)
    (h : ∀ a' c' w', OwnL w'.heap.size w' B a' (n + 1) c' (l ++ [y]) → Below B w w' → w.grownBy w' (Value.ownBlock (.slice a n c)) → K (act.put o.dst (.slice a' (n + 1) c')) w') :
    if Region.wanted o (yielded ops act.tmps) = true then Oper.wp P o act w K Q else E := by
  have hw : Region.wanted o (yielded ops act.tmps) = true := by simp [Region.wanted, hgd]
  rw [if_pos hw]
  have h63 : n + 1 ≤ maxLen := by
    have := Nat.mul_le_mul_left (n + 1) hb1
    unfold maxLen
    omega
  obtain ⟨a', c', w', hr, h2, h3, h4⟩ := run_appL (P := P) (dd := dd) w t o.type e he i z bytes ht hi hz hsize hby hzs hown hnew hv hf hbytes h63 hB
  unfold Oper.wp execOp
  simp only [ho, resolve, invoke, builtin, Sem.run_bind, Sem.run_pure, Result.andThen_ok, List.map_toArray, List.map_cons, List.map_nil, hq, hx, hr]
  exact h a' c' w' h2 h3 h4
end
/-- What a function leaves that makes a list of lists. -/
def MadeL (B : Nat) (l : List (List Int)) (w : World) (e : Ending) (w' : World) : Prop :=
  ∃ a n c, e = .returned (.slice a n c) ∧ OwnL w'.heap.size w' B a n c l ∧ Below B w w'
end Go.Proofs.YtcmjadfpifpknaaGreat
namespace Go.Proofs.YtcmjadfpifpknaaGreat
open Go.ChangeShapes Go.WideShapes Go.ChangeAt Go.RowKit
set_option linter.unusedVariables false
set_option linter.unusedSimpArgs false

theorem Inside.new {lo hi : Nat} {w w1 w2 : World} {row : Option Nat} (h : Inside lo hi w w1) (hg : w1.grownBy w2 row) (hr : ∀ r, row = some r → (lo ≤ r ∧ r < hi) ∨ w.heap.size ≤ r) : Inside lo hi w w2 :=
  ⟨hg.os.trans h.os, hg.tape.trans h.tape, hg.output.trans h.output, Nat.le_trans h.size hg.size, fun k hk hd => (hg.block k (Nat.lt_of_lt_of_le hk h.size) fun e => by
    have := hr k e.symm
    omega).trans (h.block k hk hd)⟩
theorem Inside.down {lo hi : Nat} {w w' : World} (h : Inside lo hi w w') (hl : lo ≤ w.heap.size) : Below lo w w' := ⟨h.os, h.tape, h.output, h.size, fun k hk => h.block k (by omega) (Or.inl hk)⟩
theorem flat_take {l : List (List Int)} {j : Nat} {x : List Int} (h : l[j]? = some x) : (l.take (j + 1)).flatten = (l.take j).flatten ++ x := by
  rw [List.take_add_one, h]
  simp
theorem flat_len (l : List (List Int)) : l.flatten.length = numsOf l := by
  unfold numsOf
  rw [List.length_flatten]
set_option maxHeartbeats 4000000 in
set_option maxRecDepth 100000 in
theorem appendLists_any {B S : Nat} {w : World} {q : Option Addr} {r e : Nat} {l : List Int} {a : Option Addr} {n c : Nat} {rows : List (List Int)} (ho : Own .i64 3 w B q r e l) (hs : Span q B S) (hB : B ≤ w.heap.size) (hR : ∀ w', Inside B S w w' → Rws w' a n rows) (hl : l.length + numsOf rows ≤ 1048576) :
    Calls Tryz.prog 156 #[.slice q r e, .slice a n c] w (Made .i64 3 B (l ++ rows.flatten) w) := by
  have HO := Lib.hid ho
  have HS := Lib.hid hs
  have HR := Lib.hid hR
  have hrn := Lib.hid (hR w (Inside.refl _ _ _)).len
  have hfit := (hR w (Inside.refl _ _ _)).fits
  obtain ⟨i0, hi, hz0, hz1, hz2⟩ := info_parts infoIntS
  have HI := Lib.hid (And.intro hi (And.intro hz0 (And.intro hz1 hz2)))
  clear hi hz0 hz1 hz2 ho hs hR
  go_enter Tryz.func156, Tryz.ntmps156
  go_wp2_with fail
  go_loopw [0, 6, 9] (fun v _ i wr => ∃ (j : Nat) (q : Option Addr) (r e : Nat), j ≤ n ∧ i = .int .i64 j ∧ v = .slice q r e ∧ Own .i64 3 wr B q r e (l ++ (rows.take j).flatten) ∧ (∀ ad, q = some ad → (B ≤ ad.block ∧ ad.block < S) ∨ w.heap.size ≤ ad.block) ∧ Inside B S w wr) (fun _ _ i _ => n - (intOf i).toNat)
  case atStart => exact ⟨0, _, _, _, Nat.zero_le _, rfl, rfl, by simpa using HO.out, fun ad e => Or.inl (HS.out ad e), Inside.refl _ _ _⟩
  case round =>
    obtain ⟨j, q, r, e, hj, rfl, rfl, hown, hqs, hin⟩ := hrel
    have HOr := Lib.hid hown
    have HQ := Lib.hid hqs
    have HN := Lib.hid hin
    have hsz := hin.size
    clear hown hqs hin
    by_cases hlt : j < n
    · obtain ⟨ad, p, m, d, y, rfl, hy, hc0, hN, hr⟩ := (HR.out wr HN.out).at_ hlt
      have hym := hN.len
      have hrl : r + m ≤ 1048576 := by
        have h1 := HOr.out.len
        have h2 := numsOf_at hy
        have h3 := numsOf_le rows (j + 1)
        rw [List.length_append, flat_len] at h1
        omega
      have HX : Hid (l ++ (rows.take (j + 1)).flatten = l ++ ((rows.take j).flatten ++ y)) := Lib.hid (by rw [flat_take hy])
      have HNn := Lib.hid hN
      clear hy hN hym
      go_wp2_with (at_builtin; refine wpl_app_e _ rfl (.tmp 13) (.tmp 14) 24 rfl .i64 3 i0 (.int .i64 0) 8 Tryz.underlying24 HI.out.1 HI.out.2.1 HI.out.2.2.1 HI.out.2.2.2 rfl rfl HOr.out rfl HNn.out (by omega) ?c1 ?c2 ?_)
      case c1 => omega
      case c2 => omega
      intro a2 c2 w2 ho2 hg2 hw2
      have HO2 := Lib.hid ho2
      have HN2 := Lib.hid (HN.out.new hg2 (fun k ek => by
        obtain ⟨ad, e1, rfl⟩ := block_of ek
        exact HQ.out ad e1))
      have HQ2 : Hid (∀ ad, a2 = some ad → (B ≤ ad.block ∧ ad.block < S) ∨ w.heap.size ≤ ad.block) := Lib.hid (fun cd ec => by
        rcases hw2 cd ec with ⟨bd, eb, e2⟩ | e2
        · have := HQ.out bd eb
          omega
        · omega)
      clear ho2 hg2 hw2 hc0
      go_wp2_with fail
      go_roundw
      case rel => exact ⟨j + 1, a2, r + m, c2, by omega, by go_num, rfl, by rw [HX.out]; exact HO2.out, HQ2.out, HN2.out⟩
      case measure => simp [intOf]; omega
    · obtain rfl : j = n := by omega
      have HF : Hid (rows.take j = rows) := Lib.hid (List.take_of_length_le (by rw [hrn.out]; omega))
      go_wp2_with fail
      go_ret
      have h1 := HOr.out
      rw [HF.out] at h1
      exact ⟨_, _, _, rfl, h1, HN.out.down hB⟩
theorem lit_rows2 {w : World} {k : Int} {a b : Option Addr} {n m c d : Nat} {l l' : List Int} (h1 : Nums .i64 w a n l) (r1 : n ≤ c ∧ (c : Int) ≤ 9223372036854775807) (h2 : Nums .i64 w b m l') (r2 : m ≤ d ∧ (d : Int) ≤ 9223372036854775807) :
    ∀ w', Inside w.heap.size (w.heap.size + 1) ((w.alloc (.cells #[.int .i64 k] 3)).alloc (.cells #[.slice a n c, .slice b m d] 24)) w' → Rws w' (some ⟨w.heap.size + 1, 0, none⟩) 2 [l, l'] := fun w' hI => by
  obtain ⟨hsz, hC, hD, hb⟩ := two w #[.int .i64 k] #[.slice a n c, .slice b m d] 3 24
  have hB : Below w.heap.size w w' := hb.trans (hI.down (by omega))
  obtain ⟨c0, c1, _, _⟩ := two_cells ((hI.block (w.heap.size + 1) (by omega) (Or.inr (Nat.le_refl _))).trans hD)
  refine ⟨rfl, by omega, fun j x hj => ?_⟩
  match j, hj with
  | 0, hj => cases hj; exact ⟨_, a, n, c, rfl, by rw [addr_zero]; exact c0, h1.same hB, r1⟩
  | 1, hj => cases hj; exact ⟨_, b, m, d, rfl, by rw [addr_zero]; exact c1, h2.same hB, r2⟩
  | j + 2, hj => simp at hj
theorem lit_rows1 {w : World} {k : Int} {a : Option Addr} {n c : Nat} {l : List Int} (h1 : Nums .i64 w a n l) (r1 : n ≤ c ∧ (c : Int) ≤ 9223372036854775807) :
    ∀ w', Inside w.heap.size (w.heap.size + 1) ((w.alloc (.cells #[.int .i64 k] 3)).alloc (.cells #[.slice a n c] 24)) w' → Rws w' (some ⟨w.heap.size + 1, 0, none⟩) 1 [l] := fun w' hI => by
  obtain ⟨hsz, hC, hD, hb⟩ := two w #[.int .i64 k] #[.slice a n c] 3 24
  have hB : Below w.heap.size w w' := hb.trans (hI.down (by omega))
  have c0 := (block_cell ((hI.block (w.heap.size + 1) (by omega) (Or.inr (Nat.le_refl _))).trans hD) 0).trans rfl
  refine ⟨rfl, by omega, fun j x hj => ?_⟩
  match j, hj with
  | 0, hj => cases hj; exact ⟨_, a, n, c, rfl, by rw [addr_zero]; exact c0, h1.same hB, r1⟩
  | j + 1, hj => simp at hj
theorem own_lit {w : World} (k : Int) (o : Obj) : Own .i64 3 ((w.alloc (.cells #[.int .i64 k] 3)).alloc o) w.heap.size (some ⟨w.heap.size, 0, none⟩) 1 1 [k] ∧ Span (some ⟨w.heap.size, 0, none⟩) w.heap.size (w.heap.size + 1) ∧ Below w.heap.size w ((w.alloc (.cells #[.int .i64 k] 3)).alloc o) :=
  ⟨Own.alloc ⟨rfl, World.ownsRow_lit w #[.int .i64 k] 1 (Nat.le_refl _) (by unfold maxLen; omega) rfl⟩ _, fun ad e => by cases e; exact ⟨Nat.le_refl _, Nat.lt_succ_self _⟩, ((Below.refl _ w).alloc (Nat.le_refl _) _).alloc (by simp) _⟩
set_option maxHeartbeats 4000000 in
set_option maxRecDepth 100000 in
theorem helloBytes_any {w : World} {v : Value} {x : Hel} (h : HelW w v x) : Calls Tryz.prog 135 #[v] w (Made .i64 3 w.heap.size (helB x) w) := by
  have KH := Lib.hid (fun (w0 : World) (hb : Below w.heap.size w w0) => isHello_any (h.same hb))
  obtain ⟨a, n, c, b, m, d, rfl, h1, h2, h3⟩ := h
  have HB := Lib.hid (alloc_same w (.cells #[.slice a n c, .slice b m d] 27))
  have hC := heap_alloc_new w (.cells #[.slice a n c, .slice b m d] 27 (0, 0))
  change (w.alloc (.cells #[.slice a n c, .slice b m d] 27)).heap[w.heap.size]? = _ at hC
  have hlt : w.heap.size < (w.alloc (.cells #[.slice a n c, .slice b m d] 27)).heap.size := by simp
  cases hh : isH x with
  | false =>
    rw [hh] at KH
    rw [helB_no hh]
    clear hC hh h1 h2 h3
    go_enter Tryz.func135, Tryz.ntmps135
    go_wp2_with fail
    refine (KH.out _ HB.out).mono ?_
    rintro e w1 ⟨rfl, hb⟩
    have HB1 := Lib.hid (HB.out.trans (hb.mono HB.out.size))
    clear hb
    go_wp2_with fail
    go_ret
    exact ⟨_, _, _, rfl, Own.empty HB1.out.size, HB1.out.alloc HB1.out.size _⟩
  | true =>
    rw [hh] at KH
    rw [helB_yes hh]
    obtain ⟨hw1, hx1⟩ := isH_parts.1 hh
    have hvl := (areV_len hw1).1
    have HL := Lib.hid h1.len
    have HXL := Lib.hid (encX_few hx1)
    have H1 := Lib.hid (And.intro h1 h3.1)
    have KE := Lib.hid (fun (w0 : World) (hb : Below w.heap.size w w0) => encodeExts_any (c := d) (h2.same hb))
    unfold EncXT at KE
    rw [hx1, encW_yes hx1] at KE
    clear hh h1 h2 h3 hw1 hx1
    go_enter Tryz.func135, Tryz.ntmps135
    go_wp2_with fail
    generalize w.alloc (.cells #[.slice a n c, .slice b m d] 27) = W0 at *
    refine (KH.out _ HB.out).mono ?_
    rintro e w1 ⟨rfl, hb⟩
    have HB1 := Lib.hid (HB.out.trans (hb.mono HB.out.size))
    have HC1 := Lib.hid ((hb.block w.heap.size hlt).trans hC)
    have hs1 := Nat.lt_of_lt_of_le hlt hb.size
    clear hb hC
    obtain ⟨c0, c1, _, _⟩ := two_cells HC1.out
    go_wp2_with fail
    refine (KE.out w1 HB1.out).mono ?_
    rintro e w2 ⟨q, m2, d2, rfl, ho2, hb2⟩
    have HB2 := Lib.hid (HB1.out.trans (hb2.mono HB1.out.size))
    obtain ⟨e0, e1, _, _⟩ := two_cells ((hb2.block w.heap.size hs1).trans HC1.out)
    have HO2 := Lib.hid ho2
    have e2 := cell_stay e0 (alloc_same w2 (.cells #[.int .i64 (n : Int)] 3))
    obtain ⟨ow, sp, hbw⟩ := own_lit (w := w2) (n : Int) (.cells #[.slice a n c, .slice q m2 d2] 24)
    have KA := Lib.hid (appendLists_any (c := 2) ow sp hbw.size (lit_rows2 (k := (n : Int)) (H1.out.1.same HB2.out) H1.out.2 HO2.out.nums HO2.out.room) (by
      have h1 := HL.out
      have h2 := HXL.out
      simp [numsOf]
      omega))
    have HBW := Lib.hid hbw
    clear c0 c1 hb2 ho2 hs1 ow sp hbw
    go_wp2_with fail
    refine KA.out.mono ?_
    rintro e w3 ⟨q3, m3, d3, rfl, ho3, hb3⟩
    have HR : Hid (Made .i64 3 w.heap.size (codeH x) w (.returned (.slice q3 m3 d3)) w3) := Lib.hid ⟨_, _, _, rfl, (ho3.lower HB2.out.size).take_len (by unfold codeH; rw [HL.out]; simp), HB2.out.trans ((HBW.out.trans hb3).mono HB2.out.size)⟩
    clear ho3 hb3
    go_wp2_with fail
    go_ret
    exact HR.out
set_option maxHeartbeats 4000000 in
set_option maxRecDepth 100000 in
theorem answerBytes_any {w : World} {v : Value} {x : Ans} (h : AnsW w v x) : Calls Tryz.prog 136 #[v] w (Made .i64 3 w.heap.size (ansB x) w) := by
  have KH := Lib.hid (fun (w0 : World) (hb : Below w.heap.size w w0) => isAnswer_any (h.same hb))
  obtain ⟨b, m, d, rfl, h2, h3⟩ := h
  have HB := Lib.hid (alloc_same w (.cells #[.int .i64 x.ver, .slice b m d] 44))
  have hC := heap_alloc_new w (.cells #[.int .i64 x.ver, .slice b m d] 44 (0, 0))
  change (w.alloc (.cells #[.int .i64 x.ver, .slice b m d] 44)).heap[w.heap.size]? = _ at hC
  have hlt : w.heap.size < (w.alloc (.cells #[.int .i64 x.ver, .slice b m d] 44)).heap.size := by simp
  cases hh : isA x with
  | false =>
    rw [hh] at KH
    rw [ansB_no hh]
    clear hC hh h2 h3
    go_enter Tryz.func136, Tryz.ntmps136
    go_wp2_with fail
    refine (KH.out _ HB.out).mono ?_
    rintro e w1 ⟨rfl, hb⟩
    have HB1 := Lib.hid (HB.out.trans (hb.mono HB.out.size))
    clear hb
    go_wp2_with fail
    go_ret
    exact ⟨_, _, _, rfl, Own.empty HB1.out.size, HB1.out.alloc HB1.out.size _⟩
  | true =>
    rw [hh] at KH
    rw [ansB_yes hh]
    obtain ⟨hw1, hx1⟩ := isA_parts.1 hh
    have HXL := Lib.hid (encX_few hx1)
    have KE := Lib.hid (fun (w0 : World) (hb : Below w.heap.size w w0) => encodeExts_any (c := d) (h2.same hb))
    unfold EncXT at KE
    rw [hx1, encW_yes hx1] at KE
    clear hh h2 h3 hw1 hx1
    go_enter Tryz.func136, Tryz.ntmps136
    go_wp2_with fail
    generalize w.alloc (.cells #[.int .i64 x.ver, .slice b m d] 44) = W0 at *
    refine (KH.out _ HB.out).mono ?_
    rintro e w1 ⟨rfl, hb⟩
    have HB1 := Lib.hid (HB.out.trans (hb.mono HB.out.size))
    have HC1 := Lib.hid ((hb.block w.heap.size hlt).trans hC)
    have hs1 := Nat.lt_of_lt_of_le hlt hb.size
    clear hb hC
    obtain ⟨c0, c1, _, _⟩ := two_cells HC1.out
    go_wp2_with fail
    refine (KE.out w1 HB1.out).mono ?_
    rintro e w2 ⟨q, m2, d2, rfl, ho2, hb2⟩
    have HB2 := Lib.hid (HB1.out.trans (hb2.mono HB1.out.size))
    obtain ⟨e0, e1, _, _⟩ := two_cells ((hb2.block w.heap.size hs1).trans HC1.out)
    have HO2 := Lib.hid ho2
    obtain ⟨ow, sp, hbw⟩ := own_lit (w := w2) x.ver (.cells #[.slice q m2 d2] 24)
    have KA := Lib.hid (appendLists_any (c := 1) ow sp hbw.size (lit_rows1 (k := x.ver) HO2.out.nums HO2.out.room) (by
      have h2 := HXL.out
      simp [numsOf]
      omega))
    have HBW := Lib.hid hbw
    clear c0 c1 hb2 ho2 hs1 ow sp hbw
    go_wp2_with fail
    refine KA.out.mono ?_
    rintro e w3 ⟨q3, m3, d3, rfl, ho3, hb3⟩
    have HR : Hid (Made .i64 3 w.heap.size (codeA x) w (.returned (.slice q3 m3 d3)) w3) := Lib.hid ⟨_, _, _, rfl, (ho3.lower HB2.out.size).take_len (by unfold codeA; simp), HB2.out.trans ((HBW.out.trans hb3).mono HB2.out.size)⟩
    clear ho3 hb3
    go_wp2_with fail
    go_ret
    exact HR.out
end Go.Proofs.YtcmjadfpifpknaaGreat
namespace Go.Proofs.YtcmjadfpifpknaaGreat
open Go.ChangeShapes Go.WideShapes Go.ChangeAt Go.RowKit
set_option linter.unusedVariables false
set_option linter.unusedSimpArgs false

def heldO (v : Value) : Option (DataW Value × List MemPlace) := some (.held v, [])
/-- What the map holds: every number that was kept. -/
def offD : List Int → DataW Value
  | [] => .map []
  | x :: M => (offD M).put (.int .i64 x) (.held (.bool true))
section
open Go.Maps
theorem offD_isMap : ∀ M, IsMap (offD M)
  | [] => isMap_empty
  | p :: M => (offD_isMap M).put _ _
theorem offD_at {p : Int} (z : DataW Value) : ∀ M : List Int, (offD M).atKey (.int .i64 p) z = if p ∈ M then .held (.bool true) else z
  | [] => by simp [offD, DataW.atKey]
  | q :: M => by
    have ih := offD_at (p := p) z M
    by_cases e : q = p
    · subst e
      unfold offD
      rw [atKey_put_same (offD_isMap M) (by simp [WideAt.IsKeyLit]), if_pos (by simp)]
    · unfold offD
      rw [atKey_put_other (lit_ne e), ih]
      have : ¬ p = q := fun h => e h.symm
      simp [this]
end
/-- Block g is a set of the numbers of M. -/
def Offer (w : World) (g : Nat) (M : List Int) : Prop := w.ownsMap Tryz.prog 3 heldO g M.length (offD M)
theorem Offer.lt {w : World} {g : Nat} {M : List Int} (h : Offer w g M) : g < w.heap.size := World.ownsMap.lt h
theorem Offer.same {w w' : World} {g : Nat} {M : List Int} (h : Offer w g M) (hb : Below w.heap.size w w') : Offer w' g M := World.ownsMap.kept h (grown_below hb none) (by simp)
theorem off_zero (w : World) : (zeroValue 4).run Tryz.prog w = .ok (.bool false) w := by kernel_rfl
theorem off_made (w : World) : Offer (w.alloc (.map #[] 0)) w.heap.size [] := World.ownsMap_made w Tryz.prog 3 heldO
set_option maxRecDepth 100000 in
theorem off_look {w : World} {g : Nat} {M : List Int} {p : Int} (h : Offer w g M) (hp : (Lit.int .i64 p).wf = true) :
    (Instr.lookup 151 (.map (some g)) (.int .i64 p) false).run Tryz.prog w = .ok (.bool (decide (p ∈ M))) w := by
  obtain ⟨es, ck, hb, F, hs, hD⟩ := h
  rcases Maps.fit_look false int_keys Tryz.underlying151 (off_zero w) hb F (Maps.keyOf_int_mk Tryz.underlying3 hp) with ⟨h1, _, h3⟩ | ⟨e0, y, _, _, hr, hR, hat, _⟩
  · have hn : p ∉ M := fun hm => by
      have q := h3 (.lit (.bool false))
      rw [← hD, offD_at, if_pos hm] at q
      cases q
    rw [decide_eq_false hn]
    exact h1
  · have hR2 : y = (.held e0.val, []) := by
      unfold heldO at hR
      exact (Option.some.inj hR).symm
    by_cases hm : p ∈ M
    · have q := hat (.lit (.bool false))
      rw [← hD, offD_at, if_pos hm, hR2] at q
      injection q with q
      rw [decide_eq_true hm]
      rw [q]
      exact hr
    · have q := hat (.lit (.bool false))
      rw [← hD, offD_at, if_neg hm, hR2] at q
      cases q
theorem off_clear {w : World} {g : Nat} {M : List Int} (h : Offer w g M) : ∃ w', (∀ ty, (Builtin.clear_ #[151] ty #[.map (some g)]).run Tryz.prog w = .ok (.tuple #[]) w') ∧ Offer w' g [] ∧ w.grownBy w' (some g) := by
  obtain ⟨es, ck, hb, F, hs, hD⟩ := h
  refine ⟨{ w with heap := w.heap.setIfInBounds g (.map #[] ck) }, fun ty => ?_, ⟨#[], ck, (MapKept.heap_set hb).1, ⟨by simp, MapKept.stamped_empty ck, by simp⟩, Nat.le_refl _, rfl⟩, ⟨rfl, rfl, rfl, by simp, fun i _ hi => (MapKept.heap_set hb).2 i (fun e => hi (by rw [e]))⟩⟩
  simp [Builtin.clear_, run_underlying Tryz.underlying151, MapKept.run_getObj_map hb, MapKept.run_setObj_map _ hb, Result.andThen]
set_option maxHeartbeats 4000000 in
set_option maxRecDepth 100000 in
theorem keep_any {w : World} {g : Nat} {M : List Int} {a : Option Addr} {n c : Nat} {l : List Int} (h : Offer w g M) (hN : ∀ w', w.grownBy w' (some g) → Nums .i64 w' a n l) (hz : ∀ z ∈ l, (Lit.int .i64 z).wf = true) (hn : n ≤ 1048576) :
    Calls Tryz.prog 138 #[.map (some g), .slice a n c] w fun e w' => e = .returned (.tuple #[]) ∧ Offer w' g l.reverse ∧ w.grownBy w' (some g) := by
  obtain ⟨w1, hrun, ho, hg⟩ := off_clear h
  have HN := Lib.hid hN
  have HZ := Lib.hid hz
  have hnl := Lib.hid (hN w (grown_below (Below.refl _ _) _)).len
  have HO := Lib.hid ho
  have HG := Lib.hid hg
  clear h hN hz ho hg
  go_enter Tryz.func138, Tryz.ntmps138
  go_wp2_with fail
  go_loopw [5, 9] (fun _ i wr => ∃ j : Nat, j ≤ n ∧ i = .int .i64 j ∧ Offer wr g (l.take j).reverse ∧ w.grownBy wr (some g)) (fun _ i _ => n - (intOf i).toNat)
  case atStart => exact ⟨0, Nat.zero_le _, rfl, HO.out, HG.out⟩
  case round =>
    obtain ⟨j, hj, rfl, ho, hg⟩ := hrel
    have HOr := Lib.hid ho
    have HGr := Lib.hid hg
    clear ho hg
    by_cases hlt : j < n
    · obtain ⟨ad, z, rfl, hx, hc⟩ := (HN.out wr HGr.out).at_ hlt
      have hkey := Maps.keyOf_int_mk Tryz.underlying3 (HZ.out z (List.mem_of_getElem? hx))
      have HL : Hid ((l.take (j + 1)).reverse = z :: (l.take j).reverse) := Lib.hid (by rw [List.take_add_one, hx]; simp)
      have hll : (l.take j).reverse.length < maxLen := by unfold maxLen; simp; omega
      clear hx
      go_wp2_with (at_mapUpdate; refine wpList_mapUpdate_own _ rfl _ _ _ 151 rfl 3 4 int_keys Tryz.underlying151 heldO g _ _ rfl HOr.out hll _ _ _ rfl rfl hkey _ [] rfl ?_; intro w2 ho2 hg2)
      have HO2 : Hid (Offer w2 g (l.take (j + 1)).reverse) := Lib.hid (by rw [HL.out]; exact ho2)
      have HG2 := Lib.hid (HGr.out.trans hg2)
      clear ho2 hg2 hkey hc
      go_wp2_with fail
      go_roundw
      case rel => exact ⟨j + 1, by omega, by go_num, HO2.out, HG2.out⟩
      case measure => simp [intOf]; omega
    · obtain rfl : j = n := by omega
      have h1 := HOr.out
      rw [List.take_of_length_le (by rw [hnl.out]; omega)] at h1
      have HF := Lib.hid h1
      clear h1
      go_wp2_with fail
      go_end0
      exact ⟨rfl, HF.out, HGr.out⟩
set_option maxHeartbeats 4000000 in
set_option maxRecDepth 100000 in
theorem hasAll_any {w : World} {g : Nat} {M : List Int} {a : Option Addr} {n c : Nat} {l : List Int} (h : Offer w g M) (hN : Nums .i64 w a n l) (hz : ∀ z ∈ l, (Lit.int .i64 z).wf = true) :
    Calls Tryz.prog 139 #[.map (some g), .slice a n c] w fun e w' => e = .returned (.bool (l.all fun t => decide (t ∈ M))) ∧ w = w' := by
  have H := Lib.hid h
  have HN := Lib.hid hN
  have HZ := Lib.hid hz
  have hfit := hN.fits
  have HA : Hid (∀ j z, l[j]? = some z → ¬ z ∈ M → (l.all fun t => decide (t ∈ M)) = false) := Lib.hid (fun j z hz hm => by
    rw [List.all_eq_false]
    exact ⟨z, List.mem_of_getElem? hz, by simpa using hm⟩)
  have HY : Hid ((∀ j z, j < n → l[j]? = some z → z ∈ M) → (l.all fun t => decide (t ∈ M)) = true) := Lib.hid (fun q => by
    rw [List.all_eq_true]
    intro z hz
    obtain ⟨j, hj⟩ := List.getElem?_of_mem hz
    exact decide_eq_true (q j z (by have := lt_of_some hj; have := hN.len; omega) hj))
  clear h hN hz
  go_enter Tryz.func139, Tryz.ntmps139
  go_wp2_with fail
  go_loopw [6, 9] (fun _ i wr => ∃ j : Nat, j ≤ n ∧ i = .int .i64 j ∧ wr = w ∧ ∀ q z, q < j → l[q]? = some z → z ∈ M) (fun _ i _ => n - (intOf i).toNat)
  case atStart => exact ⟨0, Nat.zero_le _, rfl, rfl, fun q z hq => absurd hq (by omega)⟩
  case round =>
    obtain ⟨j, hj, rfl, rfl, hall⟩ := hrel
    have HALL := Lib.hid hall
    clear hall
    by_cases hlt : j < n
    · obtain ⟨ad, z, rfl, hx, hc⟩ := HN.out.at_ hlt
      have hl := off_look H.out (HZ.out z (List.mem_of_getElem? hx))
      by_cases hm : z ∈ M
      · rw [decide_eq_true hm] at hl
        have HS : Hid (∀ q y, q < j + 1 → l[q]? = some y → y ∈ M) := Lib.hid (fun q y hq hy => by
          by_cases e : q = j
          · subst e; rw [hx] at hy; cases hy; exact hm
          · exact HALL.out q y (by omega) hy)
        clear hx hm
        go_wp2_with fail
        go_roundw
        case rel => exact ⟨j + 1, by omega, by go_num, by first | rfl | trivial, HS.out⟩
        case measure => simp [intOf]; omega
      · rw [decide_eq_false hm] at hl
        have HF := Lib.hid (HA.out j z hx hm)
        clear hx hm
        go_wp2_with fail
        go_ret
        rw [HF.out]
        exact ⟨rfl, rfl⟩
    · obtain rfl : j = n := by omega
      have HF := Lib.hid (HY.out HALL.out)
      go_wp2_with fail
      go_ret
      rw [HF.out]
      exact ⟨rfl, rfl⟩
end Go.Proofs.YtcmjadfpifpknaaGreat
