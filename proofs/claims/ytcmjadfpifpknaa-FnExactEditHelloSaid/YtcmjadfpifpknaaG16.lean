/- Handshakes under attack: what an edit makes of a hello and of an answer, and the deal that comes about. No function of the program is spoken of. Deals by value: where they lie; the helpers of the exact laws: counted, copied, compared, marked, looked at. Lists of integers are compared: by the program. Lists of integers are compared: by the model. -/
import Derived.Test.YtcmjadfpifpknaaG14
import Derived.Test.YtcmjadfpifpknaaG15
import Derived.Test.YtcmjadfpifpknaaG12
import Derived.Test.YtcmjadfpifpknaaG3
import Derived.Test.YtcmjadfpifpknaaG1
import Derived.Deep.QuietTactic
import Derived.BigQuiet
import Derived.RegionTactic
namespace Go.Proofs.Ytcmjadfpifpknaa
open Go.ChangeShapes Go.WideShapes Go.ChangeAt Go.RowKit
set_option linter.unusedVariables false

structure Dl where
  ok : Bool
  ver : Int
  tags : List Int
def noD : Dl := ⟨false, 0, []⟩
def dropX (t : Int) (l : List Vl) : List Vl := whX (fun k => decide (¬ k = t)) l
def addE (t : Int) (l : List Vl) : List Vl := if areX (l ++ [⟨t, []⟩]) = true then l ++ [⟨t, []⟩] else l
def edH (x : Hel) (e : Et) : Hel :=
  if e.kind = 1 then ⟨dropV x.vers e.n, x.exts⟩ else if e.kind = 2 then ⟨addV x.vers e.n, x.exts⟩ else if e.kind = 3 then ⟨x.vers, dropX e.n x.exts⟩ else if e.kind = 6 then ⟨x.vers, addE e.n x.exts⟩ else x
def setV (t : Int) (v : Int) : Int := if inBd t 1 9 = true then t else v
def edA (x : Ans) (e : Et) : Ans :=
  if e.kind = 4 then ⟨setV e.n x.ver, x.exts⟩ else if e.kind = 5 then ⟨x.ver, dropX e.n x.exts⟩ else x
def edHs (x : Hel) (es : List Et) : Hel := es.foldl edH x
def edAs (x : Ans) (es : List Et) : Ans := es.foldl edA x
theorem edHs_zero (x : Hel) (es : List Et) : edHs x (es.take 0) = x := rfl
theorem edAs_zero (x : Ans) (es : List Et) : edAs x (es.take 0) = x := rfl
theorem edHs_step {x : Hel} {es : List Et} {j : Nat} {e : Et} (h : es[j]? = some e) : edHs x (es.take (j + 1)) = edH (edHs x (es.take j)) e := by
  unfold edHs; rw [List.take_add_one, h]; simp
theorem edAs_step {x : Ans} {es : List Et} {j : Nat} {e : Et} (h : es[j]? = some e) : edAs x (es.take (j + 1)) = edA (edAs x (es.take j)) e := by
  unfold edAs; rw [List.take_add_one, h]; simp
theorem dropX_few (t : Int) (l : List Vl) : (dropX t l).length ≤ l.length := wh_few _ l
theorem dropX_items (t : Int) (l : List Vl) : itemsOf (dropX t l) ≤ itemsOf l := wh_items _ l
theorem items_app (l m : List Vl) : itemsOf (l ++ m) = itemsOf l + itemsOf m := by simp [itemsOf]
theorem items_none (t : Int) : itemsOf [⟨t, []⟩] = 0 := rfl
theorem addE_few (t : Int) (l : List Vl) : (addE t l).length ≤ l.length + 1 ∧ itemsOf (addE t l) = itemsOf l := by
  unfold addE
  split
  · rw [items_app, items_none]; simp
  · exact ⟨Nat.le_succ _, rfl⟩
theorem addE_yes {t : Int} {l : List Vl} (h : areX (l ++ [⟨t, []⟩]) = true) : addE t l = l ++ [⟨t, []⟩] := if_pos h
theorem addE_no {t : Int} {l : List Vl} (h : areX (l ++ [⟨t, []⟩]) = false) : addE t l = l := if_neg (by rw [h]; decide)
theorem edH_few (x : Hel) (e : Et) : (edH x e).vers.length ≤ x.vers.length + 9 ∧ (edH x e).exts.length ≤ x.exts.length + 1 ∧ itemsOf (edH x e).exts ≤ itemsOf x.exts := by
  unfold edH
  have h1 : (dropV x.vers e.n).length ≤ x.vers.length + 9 := by
    unfold dropV; split
    · have := lw_len (word x.vers &&& (511 ^^^ 2 ^ (e.n.toNat - 1))); omega
    · omega
  have h2 : (addV x.vers e.n).length ≤ x.vers.length + 9 := by
    unfold addV; split
    · have := lw_len (word x.vers ||| 2 ^ (e.n.toNat - 1)); omega
    · omega
  have h3 := dropX_few e.n x.exts
  have h4 := dropX_items e.n x.exts
  have h5 := addE_few e.n x.exts
  split
  · dsimp only; omega
  · split
    · dsimp only; omega
    · split
      · dsimp only; omega
      · split
        · dsimp only; omega
        · omega
theorem edA_few (x : Ans) (e : Et) : (edA x e).exts.length ≤ x.exts.length ∧ itemsOf (edA x e).exts ≤ itemsOf x.exts := by
  unfold edA
  have h3 := dropX_few e.n x.exts
  have h4 := dropX_items e.n x.exts
  split
  · exact ⟨Nat.le_refl _, Nat.le_refl _⟩
  · split
    · exact ⟨h3, h4⟩
    · exact ⟨Nat.le_refl _, Nat.le_refl _⟩
theorem t_dropv : ∀ w : Fin 512, ∀ j : Fin 9, w.val.testBit j.val = true → (lw w.val).length ≠ 1 → word (lw (w.val &&& (511 ^^^ 2 ^ j.val))) ≠ 0 := by decide +kernel
theorem dropV_are {l : List Int} (v : Int) (h : word l ≠ 0) : word (dropV l v) ≠ 0 := by
  by_cases hm : v ∈ l
  · by_cases h1 : l.length = 1
    · rw [(dropV_no (fun q => q.2.2 h1)).2]; exact h
    · have hr := in_range h hm
      rw [(dropV_yes h hm h1).2]
      refine t_dropv ⟨word l, word_lt l⟩ ⟨v.toNat - 1, bit_lt hr⟩ ?_ ?_
      · have := lw_mem (w := word l) (x := v)
        rw [lw_word h] at this
        exact (this.1 hm).2
      · rw [lw_word h]; exact h1
  · rw [(dropV_no (fun q => hm q.2.1)).2]; exact h
theorem addV_are {l : List Int} (v : Int) (h : word l ≠ 0) : word (addV l v) ≠ 0 := by
  by_cases hc : (1 ≤ v ∧ v ≤ 9) ∧ ¬ v ∈ l
  · rw [(addV_yes h hc.1 hc.2).2, word_of (or_lt (word_lt l) hc.1)]
    exact or_pos
  · rw [(addV_no (fun q => hc q.2)).2]; exact h
theorem edH_is {x : Hel} (e : Et) (h : isH x = true) : isH (edH x e) = true := by
  obtain ⟨h1, h2⟩ := isH_parts.1 h
  unfold edH
  split
  · exact isH_parts.2 ⟨dropV_are e.n h1, h2⟩
  · split
    · exact isH_parts.2 ⟨addV_are e.n h1, h2⟩
    · split
      · exact isH_parts.2 ⟨h1, areX_filter _ h2⟩
      · split
        · refine isH_parts.2 ⟨h1, ?_⟩
          dsimp only
          cases hA : areX (x.exts ++ [⟨e.n, []⟩]) with
          | true => rw [addE_yes hA]; exact hA
          | false => rw [addE_no hA]; exact h2
        · exact h
theorem edA_is {x : Ans} (e : Et) (h : isA x = true) : isA (edA x e) = true := by
  obtain ⟨h1, h2⟩ := isA_parts.1 h
  unfold edA
  split
  · refine isA_parts.2 ⟨?_, h2⟩
    dsimp only
    unfold setV
    split
    · next q => exact inBd_iff.1 q
    · exact h1
  · split
    · exact isA_parts.2 ⟨h1, areX_filter _ h2⟩
    · exact h
theorem edHs_is {x : Hel} (h : isH x = true) : ∀ es : List Et, isH (edHs x es) = true := by
  intro es
  induction es generalizing x with
  | nil => exact h
  | cons e t ih => exact ih (edH_is e h)
theorem edAs_is {x : Ans} (h : isA x = true) : ∀ es : List Et, isA (edAs x es) = true := by
  intro es
  induction es generalizing x with
  | nil => exact h
  | cons e t ih => exact ih (edA_is e h)
theorem isH_few {x : Hel} (h : isH x = true) : x.vers.length ≤ 9 ∧ x.exts.length ≤ 6 ∧ itemsOf x.exts ≤ 24 := by
  obtain ⟨h1, h2⟩ := isH_parts.1 h
  exact ⟨(areV_len h1).1, areX_few h2⟩
theorem isA_few {x : Ans} (h : isA x = true) : x.exts.length ≤ 6 ∧ itemsOf x.exts ≤ 24 := areX_few (isA_parts.1 h).2
/-- The deal of a handshake. -/
def dealP (key : Int) (x y : Hel) (a b : Ans) : Dl := if fitsA x b = true ∧ chkP key [helB x, ansB b] 1 (finP key [helB y, ansB a] 1) = true then ⟨true, b.ver, tagsX b.exts⟩ else noD
def runH (x : Hel) (vs ts : List Int) (key : Int) (es : List Et) : Dl :=
  if isH x = true ∧ es.length ≤ 6 then
    match chA vs ts (edHs x es) with
    | none => noD
    | some a => dealP key x (edHs x es) a (edAs a es)
  else noD
theorem runH_no {x : Hel} {vs ts : List Int} {key : Int} {es : List Et} (h : isH x = false ∨ 6 < es.length) : runH x vs ts key es = noD := if_neg (fun q => by
  rcases h with h | h
  · rw [h] at q; cases q.1
  · have := q.2; omega)
theorem runH_none {x : Hel} {vs ts : List Int} {key : Int} {es : List Et} (h : chA vs ts (edHs x es) = none) : runH x vs ts key es = noD := by
  unfold runH; rw [h]; split <;> rfl
theorem runH_some {x : Hel} {vs ts : List Int} {key : Int} {es : List Et} {a : Ans} (h0 : isH x = true) (h1 : es.length ≤ 6) (h : chA vs ts (edHs x es) = some a) : runH x vs ts key es = dealP key x (edHs x es) a (edAs a es) := by
  unfold runH; rw [if_pos ⟨h0, h1⟩, h]
theorem dealP_few (key : Int) (x y : Hel) (a b : Ans) (h : isA b = true) : (dealP key x y a b).tags.length ≤ 6 := by
  unfold dealP
  split
  · dsimp only; rw [tagsX_len]; exact (isA_few h).1
  · simp [noD]
theorem chA_is {vs ts : List Int} {x : Hel} {a : Ans} (h : chA vs ts x = some a) : isA a = true := by
  have h1 := (ch_fits h).1
  unfold fitsA at h1
  cases e : isA a with
  | true => rfl
  | false => rw [e] at h1; simp at h1
theorem runH_few (x : Hel) (vs ts : List Int) (key : Int) (es : List Et) : (runH x vs ts key es).tags.length ≤ 6 := by
  unfold runH
  split
  · split
    · simp [noD]
    · next a h => exact dealP_few _ _ _ _ _ (edAs_is (chA_is h) es)
  · simp [noD]
end Go.Proofs.Ytcmjadfpifpknaa
namespace Go.Proofs.Ytcmjadfpifpknaa
open Go.ChangeShapes Go.WideShapes Go.ChangeAt Go.RowKit
set_option linter.unusedVariables false
set_option linter.unusedSimpArgs false

def Dl.parts (x : Dl) : Nat := x.tags.length
/-- A value is this deal. -/
def DlW (w : World) (v : Value) (x : Dl) : Prop :=
  ∃ (a : Option Addr) (n c : Nat), v = .agg #[.bool x.ok, .int .i64 x.ver, .slice a n c] ∧ Nums .i64 w a n x.tags ∧ n ≤ c ∧ (c : Int) ≤ 9223372036854775807
/-- A value is this deal, its tags in blocks of the call's own, all below S. -/
def OwnDl (S : Nat) (w : World) (B : Nat) (v : Value) (x : Dl) : Prop :=
  ∃ (a : Option Addr) (n c lo hi : Nat), v = .agg #[.bool x.ok, .int .i64 x.ver, .slice a n c] ∧ Own .i64 3 w lo a n c x.tags ∧ Span a lo hi ∧ B ≤ lo ∧ hi ≤ S ∧ S ≤ w.heap.size
def MadeDl (B : Nat) (x : Dl) (w : World) (e : Ending) (w' : World) : Prop := ∃ v, e = .returned v ∧ OwnDl w'.heap.size w' B v x ∧ Below B w w'
section
variable {S S' B B' lo hi : Nat} {w w' : World} {v : Value} {x : Dl}
theorem DlW.same (h : DlW w v x) (hb : Below w.heap.size w w') : DlW w' v x := by
  obtain ⟨a, n, c, e, h1, h2⟩ := h
  exact ⟨a, n, c, e, h1.same hb, h2⟩
theorem DlW.shape (h : DlW w v x) : ∃ (a : Option Addr) (n c : Nat), v = .agg #[.bool x.ok, .int .i64 x.ver, .slice a n c] := by
  obtain ⟨a, n, c, e, _⟩ := h
  exact ⟨a, n, c, e⟩
theorem OwnDl.dl (h : OwnDl S w B v x) : DlW w v x := by
  obtain ⟨a, n, c, l, k, e, h1, _⟩ := h
  exact ⟨a, n, c, e, h1.nums, h1.room⟩
theorem OwnDl.shape (h : OwnDl S w B v x) : ∃ (a : Option Addr) (n c : Nat), v = .agg #[.bool x.ok, .int .i64 x.ver, .slice a n c] := h.dl.shape
theorem OwnDl.same (h : OwnDl S w B v x) (hb : Below w.heap.size w w') : OwnDl S w' B v x := by
  obtain ⟨a, n, c, l, k, e, h1, h2, h3, h4, h5⟩ := h
  exact ⟨a, n, c, l, k, e, h1.same hb, h2, h3, h4, Nat.le_trans h5 hb.size⟩
theorem OwnDl.lower (h : OwnDl S w B v x) (hB : B' ≤ B) : OwnDl S w B' v x := by
  obtain ⟨a, n, c, l, k, e, h1, h2, h3, h4, h5⟩ := h
  exact ⟨a, n, c, l, k, e, h1, h2, by omega, h4, h5⟩
theorem OwnDl.aside (h : OwnDl S w B v x) (hg : Inside lo hi w w') (hd : hi ≤ B ∨ S ≤ lo) : OwnDl S w' B v x := by
  obtain ⟨a, n, c, l, k, e, h1, h2, h3, h4, h5⟩ := h
  exact ⟨a, n, c, l, k, e, h1.aside hg h2 (by omega), h2, h3, h4, Nat.le_trans h5 hg.size⟩
theorem OwnDl.top (h : OwnDl S w B v x) (hS : S ≤ S') (hw : S' ≤ w.heap.size) : OwnDl S' w B v x := by
  obtain ⟨a, n, c, l, k, e, h1, h2, h3, h4, h5⟩ := h
  exact ⟨a, n, c, l, k, e, h1, h2, h3, by omega, hw⟩
theorem OwnDl.len (h : OwnDl S w B v x) : x.tags.length ≤ 9223372036854775807 := by
  obtain ⟨a, n, c, l, k, e, h1, _⟩ := h
  have := h1.len
  have := h1.room
  omega
end
theorem own_dl {w : World} {B S lo hi n c : Nat} {a : Option Addr} {k : Int} {o : Bool} {l : List Int} (h1 : Own .i64 3 w lo a n c l) (h3 : Span a lo hi) (h4 : B ≤ lo) (h6 : hi ≤ S) (h9 : S ≤ w.heap.size) : OwnDl S w B (.agg #[.bool o, .int .i64 k, .slice a n c]) ⟨o, k, l⟩ :=
  ⟨a, n, c, lo, hi, rfl, h1, h3, h4, h6, h9⟩
theorem no_dl {w : World} {B : Nat} (hB : B ≤ w.heap.size) : OwnDl w.heap.size w B (.agg #[.bool false, .int .i64 0, .slice none 0 0]) noD :=
  own_dl (lo := B) (hi := B) Own.nil Span.none (Nat.le_refl _) hB (Nat.le_refl _)
theorem deal_cells {w : World} {g : Nat} {t : TypeId} {a b c : Value} (h : w.heap[g]? = some (.cells #[a, b, c] t (0, 0))) : w.cell? ⟨g, 0, none⟩ = some a ∧ w.cell? ⟨g, 1, none⟩ = some b ∧ w.cell? ⟨g, 2, none⟩ = some c ∧ w.frozen? ⟨g, 0, none⟩ = false ∧ w.frozen? ⟨g, 1, none⟩ = false ∧ w.frozen? ⟨g, 2, none⟩ = false :=
  ⟨(block_cell h 0).trans rfl, (block_cell h 1).trans rfl, (block_cell h 2).trans rfl, block_frozen h 0, block_frozen h 1, block_frozen h 2⟩
theorem deal_put {w : World} {g : Nat} {t : TypeId} {a b c : Value} (h : w.heap[g]? = some (.cells #[a, b, c] t (0, 0))) (x y z : Value) :
    (w.setCell ⟨g, 0, none⟩ x).cell? ⟨g, 0, none⟩ = some x ∧ ((w.setCell ⟨g, 0, none⟩ x).setCell ⟨g, 1, none⟩ y).cell? ⟨g, 1, none⟩ = some y ∧ (((w.setCell ⟨g, 0, none⟩ x).setCell ⟨g, 1, none⟩ y).setCell ⟨g, 2, none⟩ z).cell? ⟨g, 2, none⟩ = some z ∧ (((w.setCell ⟨g, 0, none⟩ x).setCell ⟨g, 1, none⟩ y).setCell ⟨g, 2, none⟩ z).heap[g]? = some (.cells #[x, y, z] t (0, 0)) := by
  have h1 := heap_setCell_same w g 0 _ _ x h
  have h2 := heap_setCell_same _ g 1 _ _ y h1
  have h3 := heap_setCell_same _ g 2 _ _ z h2
  exact ⟨(block_cell h1 0).trans rfl, (block_cell h2 1).trans rfl, (block_cell h3 2).trans rfl, h3⟩
theorem deal_inside (w : World) (g : Nat) (x y z : Value) : Inside g (g + 1) w (((w.setCell ⟨g, 0, none⟩ x).setCell ⟨g, 1, none⟩ y).setCell ⟨g, 2, none⟩ z) := ((set1_inside w g 0 x).trans (set1_inside _ g 1 y)).trans (set1_inside _ g 2 z)
set_option maxHeartbeats 4000000 in
set_option maxRecDepth 100000 in
theorem szDeal_yes {w : World} {v : Value} {x : Dl} (left : Int) (h : DlW w v x) (hle : (x.parts : Int) ≤ left) (hl : left ≤ 1048576) :
    Calls Try.prog 21 #[v, .int .i64 left] w (Told (.int .i64 (left - (x.parts : Int))) w) := by
  obtain ⟨a, n, c, rfl, h1, h2⟩ := h
  have e1 := h1.len
  have f1 := h1.fits
  unfold Dl.parts at hle ⊢
  rw [e1] at hle ⊢
  have HB := Lib.hid (alloc_same w (.cells #[.bool x.ok, .int .i64 x.ver, .slice a n c] 50))
  have KI := Lib.hid (szIntS_any a n c left (w.alloc (.cells #[.bool x.ok, .int .i64 x.ver, .slice a n c] 50)) f1 (by omega) hl)
  rw [leftOf_yes (by omega)] at KI
  have hn1 : (0 : Int) ≤ left - n := by omega
  clear h1 h2 e1 f1
  go_enter Try.func21, Try.ntmps21
  go_wp2_with fail
  refine KI.out.mono ?_
  rintro e w1 ⟨rfl, rfl⟩
  go_wp2_with fail
  go_ret
  exact ⟨rfl, HB.out⟩
set_option maxHeartbeats 4000000 in
set_option maxRecDepth 100000 in
theorem szDeal_no {w : World} {v : Value} {x : Dl} (left : Int) (h : DlW w v x) (hlt0 : left < (x.parts : Int)) (h0 : 0 ≤ left) (hl : left ≤ 1048576) :
    Calls Try.prog 21 #[v, .int .i64 left] w (Told (.int .i64 (-1)) w) := by
  obtain ⟨a, n, c, rfl, h1, h2⟩ := h
  have e1 := h1.len
  have f1 := h1.fits
  unfold Dl.parts at hlt0
  rw [e1] at hlt0
  have HB := Lib.hid (alloc_same w (.cells #[.bool x.ok, .int .i64 x.ver, .slice a n c] 50))
  have KI := Lib.hid (szIntS_any a n c left (w.alloc (.cells #[.bool x.ok, .int .i64 x.ver, .slice a n c] 50)) f1 (by omega) hl)
  rw [leftOf_no (by omega)] at KI
  clear h1 h2 e1 f1
  go_enter Try.func21, Try.ntmps21
  go_wp2_with fail
  refine KI.out.mono ?_
  rintro e w1 ⟨rfl, rfl⟩
  go_wp2_with fail
  go_ret
  exact ⟨rfl, HB.out⟩
set_option maxHeartbeats 4000000 in
set_option maxRecDepth 100000 in
theorem toDeal_any {w : World} {v : Value} {x : Dl} (h : DlW w v x) (hn : x.parts ≤ 1048576000) : Calls Try.prog 23 #[v] w (MadeDl w.heap.size x w) := by
  obtain ⟨a, n, c, rfl, h1, h2⟩ := h
  unfold Dl.parts at hn
  rw [h1.len] at hn
  obtain ⟨hsz, hA, hR, hO, hB0⟩ := threeH w #[.bool x.ok, .int .i64 x.ver, .slice a n c] #[.bool false, .int .i64 0, .slice none 0 0] #[.bool x.ok, .int .i64 x.ver, .slice none 0 0] 50 53 53
  have HK := Lib.hid (toIntS_any a n c x.tags _ (h1.same hB0) hn)
  have HB := Lib.hid hB0
  have HR := Lib.hid hR
  have HO := Lib.hid hO
  unfold Made at HK
  clear h1 h2 hR hO hB0
  unfold MadeDl
  go_enter Try.func23, Try.ntmps23
  go_wp2_with fail
  clear hA
  generalize (((w.alloc (.cells #[.bool x.ok, .int .i64 x.ver, .slice a n c] 50)).alloc (.cells #[.bool false, .int .i64 0, .slice none 0 0] 53)).alloc (.cells #[.bool x.ok, .int .i64 x.ver, .slice none 0 0] 53)) = W0 at *
  refine HK.out.mono ?_
  rintro e w1 ⟨q, k, r, rfl, ho, hb⟩
  have hs1 := hb.size
  have HO1 := Lib.hid ho
  have HS1 := Lib.hid ho.span
  have HX1 := Lib.hid ((hb.block (w.heap.size + 2) (by omega)).trans HO.out)
  have HR1 := Lib.hid ((hb.block (w.heap.size + 1) (by omega)).trans HR.out)
  have HB1 := Lib.hid hb
  clear ho hb
  have hX2 := heap_setCell_same w1 (w.heap.size + 2) 2 _ _ (.slice q k r) HX1.out
  have hin := set1_inside w1 (w.heap.size + 2) 2 (.slice q k r)
  have hR2 := (hin.block (w.heap.size + 1) (by omega) (Or.inl (by omega))).trans HR1.out
  obtain ⟨y0, y1, y2, f0, f1, f2⟩ := deal_cells HX1.out
  obtain ⟨x0, x1, x2, -⟩ := deal_cells hX2
  obtain ⟨m0, m1, m2, g0, g1, g2⟩ := deal_cells hR2
  obtain ⟨z0, z1, z2, -⟩ := deal_put hR2 (.bool x.ok) (.int .i64 x.ver) (.slice q k r)
  have hin2 := deal_inside (w1.setCell ⟨w.heap.size + 2, 2, none⟩ (.slice q k r)) (w.heap.size + 1) (.bool x.ok) (.int .i64 x.ver) (.slice q k r)
  go_wp2_with fail
  (try simp only [Exit.inBlock, Exit.then])
  refine bodyPost_ret (by simp [results, Try.results23, go_sem, z0, z1, z2]; try rfl) rfl ?_
  exact ⟨_, rfl, own_dl (lo := W0.heap.size) (hi := w1.heap.size) ((HO1.out.aside hin HS1.out (by omega)).aside hin2 HS1.out (by omega)) HS1.out (by omega) (by simp) (Nat.le_refl _), hin2.to (hin.to (HB.out.trans (HB1.out.mono (by omega))) (by omega) (by omega)) (by omega) (by simp; omega)⟩
set_option maxHeartbeats 4000000 in
set_option maxRecDepth 100000 in
theorem eqDeal_yes {w : World} {v v' : Value} {x : Dl} (h : DlW w v x) (h' : DlW w v' x) : Calls Try.prog 25 #[v, v'] w (Told (.bool true) w) := by
  obtain ⟨a, n, c, rfl, h1, h2⟩ := h
  obtain ⟨b, m, d, rfl, h3, h4⟩ := h'
  have HB := Lib.hid (((Below.refl _ w).alloc (Nat.le_refl _) (.cells #[.bool x.ok, .int .i64 x.ver, .slice a n c] 53)).alloc (by simp) (.cells #[.bool x.ok, .int .i64 x.ver, .slice b m d] 53))
  have HK := Lib.hid (eqIntS_yes a b n m c d x.tags ((w.alloc (.cells #[.bool x.ok, .int .i64 x.ver, .slice a n c] 53)).alloc (.cells #[.bool x.ok, .int .i64 x.ver, .slice b m d] 53)) (h1.same HB.out) (h3.same HB.out))
  have hbo : (x.ok != x.ok) = false := by simp
  clear h1 h2 h3 h4
  go_enter Try.func25, Try.ntmps25
  go_wp2_with fail
  refine HK.out.mono ?_
  rintro e w1 ⟨rfl, hb⟩
  have HB2 := Lib.hid (HB.out.trans (hb.mono HB.out.size))
  clear hb
  go_wp2_with fail
  go_ret
  exact ⟨rfl, HB2.out⟩
/-- The marks that are laid on a deal. -/
def marksDl (k : Nat) (x : Dl) : Dl := ⟨x.ok, x.ver, marksIntS k x.tags.length⟩
end Go.Proofs.Ytcmjadfpifpknaa
namespace Go.Proofs.Ytcmjadfpifpknaa
open Go.ChangeShapes Go.WideShapes Go.ChangeAt Go.RowKit
set_option linter.unusedVariables false

set_option maxRecDepth 100000 in
theorem equalInts_yes {a b : Option Addr} {n m c d : Nat} {l : List Int} {w : World} (h : Nums .i64 w a n l) (h' : Nums .i64 w b m l) :
    Calls Try.prog 50 #[.slice a n c, .slice b m d] w (Told (.bool true) w) := by
  have H := Lib.hid h
  have H' := Lib.hid h'
  clear h h'
  go_enter Try.func50, Try.ntmps50
  go_wp2_with fail
  refine (slicesEqual_yes H.out H'.out).mono ?_
  rintro e w1 ⟨rfl, hb1⟩
  have HB1 := Lib.hid hb1
  clear hb1
  go_wp2
  go_ret
  exact ⟨rfl, HB1.out⟩
set_option maxRecDepth 100000 in
theorem equalInts_no {a b : Option Addr} {n m c d : Nat} {l l' : List Int} {w : World} (h : Nums .i64 w a n l) (h' : Nums .i64 w b m l') (hne : l ≠ l') :
    Calls Try.prog 50 #[.slice a n c, .slice b m d] w (Told (.bool false) w) := by
  have H := Lib.hid h
  have H' := Lib.hid h'
  have HE := Lib.hid hne
  clear h h' hne
  go_enter Try.func50, Try.ntmps50
  go_wp2_with fail
  refine (slicesEqual_no H.out H'.out HE.out).mono ?_
  rintro e w1 ⟨rfl, hb1⟩
  have HB1 := Lib.hid hb1
  clear hb1
  go_wp2
  go_ret
  exact ⟨rfl, HB1.out⟩
end Go.Proofs.Ytcmjadfpifpknaa
namespace Go.Proofs.Ytcmjadfpifpknaa
open Go.ChangeShapes Go.WideShapes Go.ChangeAt Go.RowKit
set_option linter.unusedVariables false

set_option maxRecDepth 100000 in
theorem specEqualInts_yes {a b : Option Addr} {n m c d : Nat} {l : List Int} {w : World} (h : Nums .i64 w a n l) (h' : Nums .i64 w b m l) :
    Calls Try.prog 49 #[.slice a n c, .slice b m d] w (Told (.bool true) w) := by
  obtain rfl : n = m := by rw [← h.len, ← h'.len]
  have hn := h.fits
  have H := Lib.hid h
  have H' := Lib.hid h'
  clear h h'
  go_enter Try.func49, Try.ntmps49
  go_wp2
  go_loopw [5] (fun i wr => ∃ j : Nat, j ≤ n ∧ i = .int .i64 j ∧ Below w.heap.size w wr) (fun i _ => n - (intOf i).toNat)
  case atStart => exact ⟨0, Nat.zero_le _, rfl, Below.refl _ _⟩
  case round =>
    obtain ⟨j, hj, rfl, hb⟩ := hrel
    have HB := Lib.hid hb
    clear hb
    by_cases hlt : j < n
    · obtain ⟨ad, x, rfl, hx, hc⟩ := (H.out.same HB.out).at_ hlt
      obtain ⟨be, y, rfl, hy, hc'⟩ := (H'.out.same HB.out).at_ hlt
      rw [hx] at hy
      cases hy
      clear hx
      go_wp2
      go_quiet (fail)
      go_wp2
      go_roundw
      case rel => exact ⟨j + 1, by omega, by go_num, HB.out.trans ((drewN_same _ _).mono HB.out.size)⟩
      case measure => simp [intOf]; omega
    · go_wp2
      go_ret
      exact ⟨rfl, HB.out⟩
set_option maxRecDepth 100000 in
theorem specEqualInts_no {a b : Option Addr} {n m c d : Nat} {l l' : List Int} {w : World} (h : Nums .i64 w a n l) (h' : Nums .i64 w b m l') (hne : l ≠ l') :
    Calls Try.prog 49 #[.slice a n c, .slice b m d] w (Told (.bool false) w) := by
  have hn := h.fits
  have hm := h'.fits
  have H := Lib.hid h
  have H' := Lib.hid h'
  have HE := Lib.hid hne
  clear h h' hne
  by_cases hnm : n = m
  · subst hnm
    go_enter Try.func49, Try.ntmps49
    go_wp2
    go_loopw [5] (fun i wr => ∃ j : Nat, j ≤ n ∧ i = .int .i64 j ∧ l.take j = l'.take j ∧ Below w.heap.size w wr) (fun i _ => n - (intOf i).toNat)
    case atStart => exact ⟨0, Nat.zero_le _, rfl, rfl, Below.refl _ _⟩
    case round =>
      obtain ⟨j, hj, rfl, ht, hb⟩ := hrel
      have HB := Lib.hid hb
      have HT := Lib.hid ht
      clear hb ht
      by_cases hlt : j < n
      · obtain ⟨ad, x, rfl, hx, hc⟩ := (H.out.same HB.out).at_ hlt
        obtain ⟨be, y, rfl, hy, hc'⟩ := (H'.out.same HB.out).at_ hlt
        have HX := Lib.hid hx
        have HY := Lib.hid hy
        clear hx hy
        by_cases hxy : x = y
        · subst hxy
          go_wp2
          go_quiet (fail)
          go_wp2
          go_roundw
          case rel => exact ⟨j + 1, by omega, by go_num, by rw [List.take_add_one, List.take_add_one, HX.out, HY.out, HT.out], HB.out.trans ((drewN_same _ _).mono HB.out.size)⟩
          case measure => simp [intOf]; omega
        · have hq : (x != y) = true := by simp [hxy]
          clear hxy
          go_wp2
          go_quiet (fail)
          go_wp2
          go_ret
          exact ⟨rfl, HB.out.trans ((drewN_same _ _).mono HB.out.size)⟩
      · exfalso
        have h1 := HT.out
        rw [List.take_of_length_le (by rw [H.out.len]; omega), List.take_of_length_le (by rw [H'.out.len]; omega)] at h1
        exact HE.out h1
  · have hq : ((n : Int) != (m : Int)) = true := by simp; omega
    clear hnm
    go_enter Try.func49, Try.ntmps49
    go_wp2
    go_ret
    exact ⟨rfl, Below.refl _ _⟩
end Go.Proofs.Ytcmjadfpifpknaa
