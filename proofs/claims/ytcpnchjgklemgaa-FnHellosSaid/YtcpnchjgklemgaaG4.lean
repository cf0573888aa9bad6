/- Lists of values, each a number and a list of integers: what a walk is told of one that is read. No function of the program is spoken of. Lists of values of the call's own, all blocks below a bound: what a write elsewhere leaves; one value put, one appended. No function of the program is spoken of. Lists of values that are being drawn: what a step of the cursor leaves. Lists that are being drawn: bounds on what they hold; a number below a bound that may be none. -/
import Derived.Test.YtcpnchjgklemgaaG2
import Derived.Test.YtcpnchjgklemgaaG3
namespace Go.Proofs.Ytcpnchjgklemgaa
open Go.ChangeShapes Go.WideShapes Go.ChangeAt Go.RowKit
set_option linter.unusedVariables false

/-- Values of messages. -/
structure Vl where
  num : Int
  items : List Int
/-- From a on lie n values: the list l. -/
structure Vals (w : World) (a : Option Addr) (n : Nat) (l : List Vl) : Prop where
  len : l.length = n
  fits : (n : Int) ≤ 9223372036854775807
  cell : ∀ j x, l[j]? = some x → ∃ b o p m c, a = some ⟨b, o, none⟩ ∧ w.cell? ⟨b, o + j * 2, none⟩ = some (.int .i64 x.num) ∧ w.cell? ⟨b, o + j * 2 + 1, none⟩ = some (.slice p m c) ∧ Nums .i64 w p m x.items ∧ m ≤ c ∧ (c : Int) ≤ 9223372036854775807
theorem Vals.nothing {w : World} : Vals w none 0 [] := ⟨rfl, by omega, fun j x h => by simp at h⟩
theorem Vals.same {w w' : World} {a : Option Addr} {n : Nat} {l : List Vl} (h : Vals w a n l) (hb : Below w.heap.size w w') : Vals w' a n l :=
  ⟨h.len, h.fits, fun j x hj => by
    obtain ⟨b, o, p, m, c, e, h0, h1, h2, h3⟩ := h.cell j x hj
    exact ⟨b, o, p, m, c, e, by rw [hb.cell (cell_in h0)]; exact h0, by rw [hb.cell (cell_in h1)]; exact h1, h2.same hb, h3⟩⟩
theorem Vals.at_ {w : World} {a : Option Addr} {n : Nat} {l : List Vl} (h : Vals w a n l) {j : Nat} (hj : j < n) : ∃ b o p m c k y, a = some ⟨b, o, none⟩ ∧ l[j]? = some ⟨k, y⟩ ∧ w.cell? ⟨b, o + j * 2, none⟩ = some (.int .i64 k) ∧ w.cell? ⟨b, o + j * 2 + 1, none⟩ = some (.slice p m c) ∧ Nums .i64 w p m y ∧ m ≤ c ∧ (c : Int) ≤ 9223372036854775807 := by
  have hl : j < l.length := by rw [h.len]; exact hj
  obtain ⟨b, o, p, m, c, e, h1⟩ := h.cell j _ (List.getElem?_eq_getElem hl)
  exact ⟨b, o, p, m, c, _, _, e, List.getElem?_eq_getElem hl, h1⟩
/-- How many integers the values hold. -/
def itemsOf (l : List Vl) : Nat := (l.map fun x => x.items.length).sum
theorem itemsOf_at {l : List Vl} {j : Nat} {x : Vl} (h : l[j]? = some x) : itemsOf (l.take (j + 1)) = itemsOf (l.take j) + x.items.length := by
  unfold itemsOf
  rw [List.take_add_one, h]
  simp
theorem itemsOf_le (l : List Vl) (j : Nat) : itemsOf (l.take j) ≤ itemsOf l := by
  conv => rhs; rw [← List.take_append_drop j l]
  unfold itemsOf
  rw [List.map_append, List.sum_append]
  omega
theorem itemsOf_mem {l : List Vl} {j : Nat} {x : Vl} (h : l[j]? = some x) : x.items.length ≤ itemsOf l := by
  have h1 := itemsOf_at h
  have h2 := itemsOf_le l (j + 1)
  omega
theorem no_nums {k : IntKind} {w : World} {a : Option Addr} {l : List Int} (h : Nums k w a 0 l) : l = [] := List.eq_nil_of_length_eq_zero h.len

/-- A value as it lies in memory: its number, and where its integers lie. -/
structure Vh where
  num : Int
  p : Option Addr
  m : Nat
  c : Nat
def Vh.enc (x : Vh) : List Value := [.int .i64 x.num, .slice x.p x.m x.c]
theorem Vh.enc_len (x : Vh) : x.enc.length = 2 := rfl
theorem Vh.cells (x : Vh) : ∀ u ∈ x.enc, u.oneCell' = true := by
  intro u hu
  simp only [Vh.enc, List.mem_cons, List.not_mem_nil, or_false] at hu
  rcases hu with rfl | rfl <;> rfl
/-- The integers of the values lie in memory of the call's own, each value's apart from the others' and from the values themselves. -/
def RowsV (t : TypeId) (w : World) (B : Nat) (a : Option Addr) (hs : List Vh) (l : List Vl) : Prop :=
  hs.length = l.length ∧
  (∀ (j : Nat) (h : Vh) (x : Vl), hs[j]? = some h → l[j]? = some x → x.num = h.num ∧ Own .i64 t w B h.p h.m h.c x.items ∧ ∀ ad bd, h.p = some ad → a = some bd → ad.block ≠ bd.block) ∧
  ∀ (i j : Nat) (h k : Vh), i < j → hs[i]? = some h → hs[j]? = some k → ∀ ad bd, h.p = some ad → k.p = some bd → ad.block ≠ bd.block
/-- The list of values is the call's own, in blocks from B on. -/
def OwnV (tO tI : TypeId) (w : World) (B : Nat) (a : Option Addr) (n c : Nat) (l : List Vl) : Prop :=
  ∃ hs : List Vh, OwnI Vh.enc 2 tO w B a n c hs ∧ RowsV tI w B a hs l
section
variable {tO tI : TypeId} {w w' : World} {B n c : Nat} {a : Option Addr} {l : List Vl} {hs : List Vh}
theorem lt_of_some {α : Type} {l : List α} {j : Nat} {x : α} (h : l[j]? = some x) : j < l.length := by
  rcases Nat.lt_or_ge j l.length with q | q
  · exact q
  · rw [List.getElem?_eq_none q] at h; cases h
theorem RowsV.same (h : RowsV tI w B a hs l) (hb : Below w.heap.size w w') : RowsV tI w' B a hs l :=
  ⟨h.1, fun j g x h1 h2 => by
    obtain ⟨e, ho, hd⟩ := h.2.1 j g x h1 h2
    exact ⟨e, ho.same hb, hd⟩, h.2.2⟩
theorem OwnV.len (h : OwnV tO tI w B a n c l) : l.length = n := by
  obtain ⟨hs, h1, h2⟩ := h
  rw [← h2.1, h1.len]
theorem OwnV.room (h : OwnV tO tI w B a n c l) : n ≤ c ∧ (c : Int) ≤ 9223372036854775807 := by
  obtain ⟨hs, h1, h2⟩ := h
  exact h1.room
theorem OwnV.span (h : OwnV tO tI w B a n c l) : Span a B w.heap.size := by
  obtain ⟨hs, h1, h2⟩ := h
  exact h1.span
theorem OwnV.vals (h : OwnV tO tI w B a n c l) : Vals w a n l := by
  have hl := h.len
  have hr := h.room
  obtain ⟨hs, h1, h2⟩ := h
  refine ⟨hl, by omega, fun j x hx => ?_⟩
  have hj : j < hs.length := by rw [h2.1]; exact lt_of_some hx
  obtain ⟨b, o, g, e, hg, hc⟩ := (h1.items Vh.enc_len).at_ (j := j) (by rw [← h1.len]; exact hj)
  obtain ⟨en, ho, _⟩ := h2.2.1 j g x hg hx
  refine ⟨b, o, g.p, g.m, g.c, e, ?_, hc 1 _ rfl, ho.nums, ho.room⟩
  rw [en]
  simpa using hc 0 _ rfl
theorem OwnV.same (h : OwnV tO tI w B a n c l) (hb : Below w.heap.size w w') : OwnV tO tI w' B a n c l := by
  obtain ⟨hs, h1, h2⟩ := h
  exact ⟨hs, h1.same hb, h2.same hb⟩
theorem OwnV.lower (h : OwnV tO tI w B a n c l) {B' : Nat} (hB : B' ≤ B) : OwnV tO tI w B' a n c l := by
  obtain ⟨hs, h1, h2⟩ := h
  exact ⟨hs, h1.lower hB, h2.1, fun j g x q1 q2 => by
    obtain ⟨e, ho, hd⟩ := h2.2.1 j g x q1 q2
    exact ⟨e, ho.lower hB, hd⟩, h2.2.2⟩
theorem OwnV.nil : OwnV tO tI w B none 0 0 [] := ⟨[], OwnI.nil, rfl, fun j g x h => by simp at h, fun i j h k _ h' => by simp at h'⟩
/-- A write to the outer row alone leaves what the integers are. -/
theorem Own.beside {k : IntKind} {t : TypeId} {p b : Option Addr} {m d n c : Nat} {y : List Int} (h : Own k t w B p m d y) (hg : w.grownBy w' (Value.ownBlock (.slice b n c))) (hd : ∀ ad bd, p = some ad → b = some bd → ad.block ≠ bd.block) : Own k t w' B p m d y := by
  cases p with
  | none => exact ⟨h.1, h.2.kept hg (Or.inl rfl)⟩
  | some ad =>
    refine ⟨h.1, h.2.kept hg (Or.inr ?_)⟩
    cases b with
    | none => simp [Value.ownBlock]
    | some be =>
      have := hd ad be rfl rfl
      simpa [Value.ownBlock] using this
theorem RowsV.beside (h : RowsV tI w B a hs l) (hg : w.grownBy w' (Value.ownBlock (.slice a n c))) : ∀ (j : Nat) (g : Vh) (x : Vl), hs[j]? = some g → l[j]? = some x → x.num = g.num ∧ Own .i64 tI w' B g.p g.m g.c x.items := fun j g x h1 h2 => by
  obtain ⟨e, ho, hd⟩ := h.2.1 j g x h1 h2
  exact ⟨e, ho.beside hg hd⟩
/-- What a row owns, two cells later. -/
theorem stored2 {t : TypeId} {s g cap : Nat} {xs : List Value} (h : w.ownsRow B t s (.slice (some ⟨g, 0, none⟩) n cap) n xs) (j0 j1 : Nat) (v0 v1 : Value) :
    ((w.setCell ⟨g, j0, none⟩ v0).setCell ⟨g, j1, none⟩ v1).ownsRow B t s (.slice (some ⟨g, 0, none⟩) n cap) n ((xs.set j0 v0).set j1 v1) ∧
    w.grownBy ((w.setCell ⟨g, j0, none⟩ v0).setCell ⟨g, j1, none⟩ v1) (some g) := by
  have h0 := h.stored j0 v0
  have h1 := h0.1.stored j1 v1
  exact ⟨h1.1, h0.2.trans h1.2⟩
theorem flatVh_put : ∀ (hs : List Vh) (i : Nat) (g : Vh), i < hs.length → ((flatOf Vh.enc hs).set (i * 2) (.int .i64 g.num)).set (i * 2 + 1) (.slice g.p g.m g.c) = flatOf Vh.enc (hs.set i g)
  | [], i, g, h => by simp at h
  | y :: t, 0, g, h => by
    have e : flatOf Vh.enc (y :: t) = .int .i64 y.num :: .slice y.p y.m y.c :: flatOf Vh.enc t := by simp [flatOf, Vh.enc]
    rw [e]
    simp [flatOf, Vh.enc]
  | y :: t, i + 1, g, h => by
    have ih := flatVh_put t i g (by simpa using h)
    have e : flatOf Vh.enc (y :: t) = .int .i64 y.num :: .slice y.p y.m y.c :: flatOf Vh.enc t := by simp [flatOf, Vh.enc]
    rw [e, show (i + 1) * 2 = i * 2 + 1 + 1 by omega, List.set_cons_succ, List.set_cons_succ, List.set_cons_succ, List.set_cons_succ, ih, List.set_cons_succ]
    simp [flatOf, Vh.enc]
/-- The integers of a value lie in blocks that are there. -/
theorem RowsV.lt (h : RowsV tI w B a hs l) {j : Nat} {k : Vh} (hk : hs[j]? = some k) {ad : Addr} (e : k.p = some ad) : B ≤ ad.block ∧ ad.block < w.heap.size := by
  have hj : j < l.length := by rw [← h.1]; exact lt_of_some hk
  obtain ⟨_, ho, _⟩ := h.2.1 j k _ hk (List.getElem?_eq_getElem hj)
  exact ho.span ad e
/-- A value whose integers lie in memory that is newer than the list is put at place i. -/
theorem OwnV.put {u : World} {g : Nat} (h : OwnV tO tI u B (some ⟨g, 0, none⟩) n c l) (hb : Below u.heap.size u w) {i : Nat} (hi : i < n) (k : Int) (p : Option Addr) (m d : Nat) (y : List Int) (hv : Own .i64 tI w B p m d y)
    (hf : ∀ ad, p = some ad → u.heap.size ≤ ad.block) :
    OwnV tO tI ((w.setCell ⟨g, i * 2, none⟩ (.int .i64 k)).setCell ⟨g, i * 2 + 1, none⟩ (.slice p m d)) B (some ⟨g, 0, none⟩) n c (l.set i ⟨k, y⟩) ∧ w.grownBy ((w.setCell ⟨g, i * 2, none⟩ (.int .i64 k)).setCell ⟨g, i * 2 + 1, none⟩ (.slice p m d)) (some g) := by
  have hl := h.len
  have hgs := h.span _ rfl
  dsimp only at hgs
  obtain ⟨hs, h1, h2⟩ := h
  have hlt := fun (j : Nat) (k : Vh) (ad : Addr) (hk : hs[j]? = some k) (e : k.p = some ad) => (h2.lt hk e).2
  have h1' := h1.same hb
  have h2' := h2.same hb
  have h3 := stored2 h1'.2 (i * 2) (i * 2 + 1) (.int .i64 k) (.slice p m d)
  have hih : i < hs.length := by rw [h1.len]; exact hi
  rw [flatVh_put hs i ⟨k, p, m, d⟩ hih] at h3
  refine ⟨⟨hs.set i ⟨k, p, m, d⟩, ⟨by rw [List.length_set]; exact h1.len, h3.1⟩, by rw [List.length_set, List.length_set]; exact h2.1, fun j v x hk hx => ?_, fun j j' v v' hjj hk hk' ad bd ha hb' => ?_⟩, h3.2⟩
  · by_cases e : j = i
    · subst e
      rw [List.getElem?_set_self hih] at hk
      rw [List.getElem?_set_self (by rw [hl]; exact hi)] at hx
      cases hk
      cases hx
      refine ⟨rfl, Own.beside (b := some ⟨g, 0, none⟩) (n := n) (c := c) hv h3.2 fun ad bd ha hb' => ?_, fun ad bd ha hb' => ?_⟩
      · cases hb'
        have := hf ad ha
        dsimp only
        omega
      · cases hb'
        have := hf ad ha
        dsimp only
        omega
    · rw [List.getElem?_set_ne (by omega)] at hk hx
      obtain ⟨e1, ho, hd1⟩ := h2'.2.1 j v x hk hx
      exact ⟨e1, Own.beside (b := some ⟨g, 0, none⟩) (n := n) (c := c) ho h3.2 hd1, hd1⟩
  · by_cases e : j = i
    · subst e
      rw [List.getElem?_set_self hih] at hk
      rw [List.getElem?_set_ne (by omega)] at hk'
      cases hk
      have := hlt j' v' bd hk' hb'
      have := hf ad ha
      omega
    · rw [List.getElem?_set_ne (by omega)] at hk
      by_cases e' : j' = i
      · subst e'
        rw [List.getElem?_set_self hih] at hk'
        cases hk'
        have := hlt j v ad hk ha
        have := hf bd hb'
        omega
      · rw [List.getElem?_set_ne (by omega)] at hk'
        exact h2'.2.2 j j' v v' hjj hk hk' ad bd ha hb'
/-- Values that are all empty. -/
theorem OwnV.zeros (h : w.ownsRow B tO 2 (.slice a n c) n (flatOf Vh.enc (List.replicate n ⟨0, none, 0, 0⟩))) : OwnV tO tI w B a n c (List.replicate n ⟨0, []⟩) := by
  refine ⟨List.replicate n ⟨0, none, 0, 0⟩, ⟨by simp, h⟩, by simp, fun j v x hk hx => ?_, fun i j v v' _ hk _ ad bd ha _ => ?_⟩
  · have e1 := List.mem_replicate.1 (List.mem_of_getElem? hk)
    have e2 := List.mem_replicate.1 (List.mem_of_getElem? hx)
    rw [e1.2, e2.2]
    exact ⟨rfl, Own.nil, fun ad bd ha => by cases ha⟩
  · have e1 := List.mem_replicate.1 (List.mem_of_getElem? hk)
    rw [e1.2] at ha
    cases ha
theorem made2 (n : Nat) : (madeCells (Value.agg #[.int .i64 0, .slice none 0 0]).cells (n * 2)).toList = flatOf Vh.enc (List.replicate n ⟨0, none, 0, 0⟩) := by
  apply List.ext_getElem?
  intro i
  by_cases hi : i < n * 2
  · have hlt : i / 2 < n := Nat.div_lt_of_lt_mul (by omega)
    have h2 := flatOf_at Vh.enc_len (List.replicate n ⟨0, none, 0, 0⟩) (i / 2) ⟨0, none, 0, 0⟩ (i % 2) (by simp [hlt]) (Nat.mod_lt _ (by omega))
    rw [show i / 2 * 2 + i % 2 = i by omega] at h2
    rw [h2]
    have h3 : i % 2 < 2 := Nat.mod_lt _ (by omega)
    have h4 : (madeCells (Value.agg #[.int .i64 0, .slice none 0 0]).cells (n * 2)).toList[i]? = some ((#[.int .i64 0, .slice none 0 0] : Array Value)[i % 2]!) := by
      simp [madeCells, Value.cells, hi]
    rw [h4]
    match i % 2, h3 with
    | 0, _ => rfl
    | 1, _ => rfl
  · rw [List.getElem?_eq_none (by simp [madeCells]; omega), List.getElem?_eq_none (by rw [flatOf_len Vh.enc_len]; simp; omega)]
end
/-- One cell of another block is written. -/
theorem set_grown (w : World) (b o : Nat) (v : Value) : w.grownBy (w.setCell ⟨b, o, none⟩ v) (some b) :=
  ⟨rfl, rfl, rfl, ((Below.refl 0 w).setCell (Nat.zero_le _) v).size, fun i hi hne => Below.heap_setCell _ _ _ _ (fun e => hne (by rw [e]))⟩
theorem Own.set {k : IntKind} {t : TypeId} {w : World} {B n c b : Nat} {a : Option Addr} {l : List Int} (h : Own k t w B a n c l) (hd : ∀ ad, a = some ad → ad.block ≠ b) (o : Nat) (v : Value) : Own k t (w.setCell ⟨b, o, none⟩ v) B a n c l := by
  cases a with
  | none => exact ⟨h.1, h.2.kept (set_grown w b o v) (Or.inl rfl)⟩
  | some ad =>
    refine ⟨h.1, h.2.kept (set_grown w b o v) (Or.inr ?_)⟩
    have := hd ad rfl
    simpa [Value.ownBlock] using this
/-- What a function leaves that makes a list of values. -/
def MadeV (tO tI : TypeId) (B : Nat) (l : List Vl) (w : World) (e : Ending) (w' : World) : Prop :=
  ∃ a n c, e = .returned (.slice a n c) ∧ OwnV tO tI w' B a n c l ∧ Below B w w'
end Go.Proofs.Ytcpnchjgklemgaa
namespace Go.Proofs.Ytcpnchjgklemgaa
open Go.ChangeShapes Go.WideShapes Go.ChangeAt Go.RowKit
set_option linter.unusedVariables false

section
variable {tO tI : TypeId} {w w' : World} {B S n c : Nat} {a : Option Addr} {l : List Vl} {hs : List Vh}
/-- A list without values. -/
theorem OwnV.empty (hB : B ≤ w.heap.size) : OwnV tO tI (w.alloc (.cells #[] tO)) B (some ⟨w.heap.size, 0, Option.none⟩) 0 0 [] :=
  ⟨[], ⟨rfl, World.ownsRow_lit w #[] 0 hB (by unfold maxLen; omega) (by simp)⟩, rfl, fun j g x h => by simp at h, fun i j h k _ h' => by simp at h'⟩
/-- All blocks of a list of values lie below S. -/
def Lim (S : Nat) (a : Option Addr) (hs : List Vh) : Prop := (∀ ad, a = some ad → ad.block < S) ∧ ∀ (j : Nat) (h : Vh) (ad : Addr), hs[j]? = some h → h.p = some ad → ad.block < S
/-- The list of values is the call's own, in blocks from B on and below S. -/
def OwnVB (S : Nat) (tO tI : TypeId) (w : World) (B : Nat) (a : Option Addr) (n c : Nat) (l : List Vl) : Prop :=
  ∃ hs : List Vh, OwnI Vh.enc 2 tO w B a n c hs ∧ RowsV tI w B a hs l ∧ Lim S a hs
theorem OwnVB.ownV (h : OwnVB S tO tI w B a n c l) : OwnV tO tI w B a n c l := by
  obtain ⟨hs, h1, h2, _⟩ := h
  exact ⟨hs, h1, h2⟩
theorem OwnV.lim (h : OwnV tO tI w B a n c l) : OwnVB w.heap.size tO tI w B a n c l := by
  obtain ⟨hs, h1, h2⟩ := h
  exact ⟨hs, h1, h2, fun ad e => (h1.span ad e).2, fun j k ad hk e => (h2.lt hk e).2⟩
theorem Own.far {k : IntKind} {t : TypeId} {p : Option Addr} {m d : Nat} {y : List Int} {row : Option Nat} (h : Own k t w B p m d y) (hg : w.grownBy w' row) (hr : ∀ ad, p = some ad → row ≠ some ad.block) : Own k t w' B p m d y := by
  cases p with
  | none => exact ⟨h.1, h.2.kept hg (Or.inl rfl)⟩
  | some ad =>
    refine ⟨h.1, h.2.kept hg (Or.inr ?_)⟩
    have h1 := hr ad rfl
    cases row with
    | none => simp [Value.ownBlock]
    | some r =>
      simp only [ne_eq, Option.some.injEq] at h1
      simp only [Value.ownBlock, ne_eq, Option.some.injEq]
      omega
theorem OwnI.far {α : Type} {enc : α → List Value} {s : Nat} {t : TypeId} {m d : Nat} {p : Option Addr} {y : List α} {row : Option Nat} (h : OwnI enc s t w B p m d y) (hg : w.grownBy w' row) (hr : ∀ ad, p = some ad → row ≠ some ad.block) : OwnI enc s t w' B p m d y := by
  cases p with
  | none => exact ⟨h.1, h.2.kept hg (Or.inl rfl)⟩
  | some ad =>
    refine ⟨h.1, h.2.kept hg (Or.inr ?_)⟩
    have h1 := hr ad rfl
    cases row with
    | none => simp [Value.ownBlock]
    | some r =>
      simp only [ne_eq, Option.some.injEq] at h1
      simp only [Value.ownBlock, ne_eq, Option.some.injEq]
      omega
/-- A write to a block that is none of the list's. -/
theorem OwnVB.far {row : Option Nat} (h : OwnVB S tO tI w B a n c l) (hg : w.grownBy w' row) (hr : ∀ r, row = some r → r < B ∨ S ≤ r) : OwnVB S tO tI w' B a n c l := by
  obtain ⟨hs, h1, h2, h3⟩ := h
  have hne : ∀ x, B ≤ x → x < S → row ≠ some x := fun x hx hy e => by
    rcases hr x e with q | q <;> omega
  refine ⟨hs, h1.far hg fun ad e => hne _ (h1.span ad e).1 (h3.1 ad e), ⟨h2.1, fun j g x hk hx => ?_, h2.2.2⟩, h3⟩
  obtain ⟨e, ho, hd⟩ := h2.2.1 j g x hk hx
  exact ⟨e, ho.far hg fun ad e => hne _ (ho.span ad e).1 (h3.2 j g ad hk e), hd⟩
theorem OwnVB.same (h : OwnVB S tO tI w B a n c l) (hb : Below w.heap.size w w') : OwnVB S tO tI w' B a n c l := h.far (grown_below hb none) fun r e => by cases e
/-- One value of the list is another one. -/
theorem RowsV.set (h : RowsV tI w B a hs l) {i : Nat} (hi : i < hs.length) (v : Vh) (y : List Int) (hv : Own .i64 tI w' B v.p v.m v.c y)
    (hk : ∀ (j : Nat) (g : Vh) (x : Vl), j ≠ i → hs[j]? = some g → l[j]? = some x → Own .i64 tI w' B g.p g.m g.c x.items)
    (ho : ∀ ad bd, v.p = some ad → a = some bd → ad.block ≠ bd.block)
    (hd : ∀ (j : Nat) (g : Vh) (ad bd : Addr), j ≠ i → hs[j]? = some g → v.p = some ad → g.p = some bd → ad.block ≠ bd.block) : RowsV tI w' B a (hs.set i v) (l.set i ⟨v.num, y⟩) := by
  refine ⟨by rw [List.length_set, List.length_set]; exact h.1, fun j g x hg hx => ?_, fun j j' g g' hjj hg hg' ad bd ha hb => ?_⟩
  · by_cases e : j = i
    · subst e
      rw [List.getElem?_set_self hi] at hg
      rw [List.getElem?_set_self (by rw [← h.1]; exact hi)] at hx
      cases hg
      cases hx
      exact ⟨rfl, hv, ho⟩
    · rw [List.getElem?_set_ne (by omega)] at hg hx
      exact ⟨(h.2.1 j g x hg hx).1, hk j g x e hg hx, (h.2.1 j g x hg hx).2.2⟩
  · by_cases e : j = i
    · subst e
      rw [List.getElem?_set_self hi] at hg
      rw [List.getElem?_set_ne (by omega)] at hg'
      cases hg
      exact hd j' g' ad bd (by omega) hg' ha hb
    · rw [List.getElem?_set_ne (by omega)] at hg
      by_cases e' : j' = i
      · subst e'
        rw [List.getElem?_set_self hi] at hg'
        cases hg'
        exact fun q => hd j g bd ad e hg hb ha q.symm
      · rw [List.getElem?_set_ne (by omega)] at hg'
        exact h.2.2 j j' g g' hjj hg hg' ad bd ha hb
theorem RowsV.other (h : RowsV tI w B a hs l) {i j : Nat} {g k : Vh} (hij : j ≠ i) (hj : hs[j]? = some g) (hi : hs[i]? = some k) : ∀ ad bd, k.p = some ad → g.p = some bd → ad.block ≠ bd.block := fun ad bd ha hb q => by
  rcases Nat.lt_or_ge i j with e | e
  · exact h.2.2 i j k g e hi hj ad bd ha hb q
  · exact h.2.2 j i g k (by omega) hj hi bd ad hb ha q.symm
theorem flatVh_num : ∀ (hs : List Vh) (i : Nat) (g : Vh) (k : Int), hs[i]? = some g → (flatOf Vh.enc hs).set (i * 2) (.int .i64 k) = flatOf Vh.enc (hs.set i ⟨k, g.p, g.m, g.c⟩)
  | [], i, g, k, h => by simp at h
  | y :: t, 0, g, k, h => by
    have : y = g := by simpa using h
    subst this
    simp [flatOf, Vh.enc]
  | y :: t, i + 1, g, k, h => by
    have ih := flatVh_num t i g k (by simpa using h)
    have e : flatOf Vh.enc (y :: t) = .int .i64 y.num :: .slice y.p y.m y.c :: flatOf Vh.enc t := by simp [flatOf, Vh.enc]
    rw [e, show (i + 1) * 2 = i * 2 + 1 + 1 by omega, List.set_cons_succ, List.set_cons_succ, ih, List.set_cons_succ]
    simp [flatOf, Vh.enc]
theorem flatVh_hdr : ∀ (hs : List Vh) (i : Nat) (g : Vh) (p : Option Addr) (m d : Nat), hs[i]? = some g → (flatOf Vh.enc hs).set (i * 2 + 1) (.slice p m d) = flatOf Vh.enc (hs.set i ⟨g.num, p, m, d⟩)
  | [], i, g, p, m, d, h => by simp at h
  | y :: t, 0, g, p, m, d, h => by
    have : y = g := by simpa using h
    subst this
    simp [flatOf, Vh.enc]
  | y :: t, i + 1, g, p, m, d, h => by
    have ih := flatVh_hdr t i g p m d (by simpa using h)
    have e : flatOf Vh.enc (y :: t) = .int .i64 y.num :: .slice y.p y.m y.c :: flatOf Vh.enc t := by simp [flatOf, Vh.enc]
    rw [e, show (i + 1) * 2 + 1 = i * 2 + 1 + 1 + 1 by omega, List.set_cons_succ, List.set_cons_succ, ih, List.set_cons_succ]
    simp [flatOf, Vh.enc]
/-- The number of a value is stored. -/
theorem OwnV.putNum {g : Nat} (h : OwnV tO tI w B (some ⟨g, 0, none⟩) n c l) {i : Nat} {x : Vl} (hx : l[i]? = some x) (k : Int) :
    OwnV tO tI (w.setCell ⟨g, i * 2, none⟩ (.int .i64 k)) B (some ⟨g, 0, none⟩) n c (l.set i ⟨k, x.items⟩) ∧ w.grownBy (w.setCell ⟨g, i * 2, none⟩ (.int .i64 k)) (some g) := by
  obtain ⟨hs, h1, h2⟩ := h
  have hih : i < hs.length := by rw [h2.1]; exact lt_of_some hx
  have hg := List.getElem?_eq_getElem hih
  have h3 := h1.2.stored (i * 2) (.int .i64 k)
  rw [flatVh_num hs i _ k hg] at h3
  obtain ⟨e1, ho, hd⟩ := h2.2.1 i _ x hg hx
  refine ⟨⟨_, ⟨by rw [List.length_set]; exact h1.len, h3.1⟩, h2.set hih ⟨k, (hs[i]).p, (hs[i]).m, (hs[i]).c⟩ x.items (Own.beside (b := some ⟨g, 0, none⟩) (n := n) (c := c) ho h3.2 hd) (fun j v y hj hv hy => ?_) hd (fun j v ad bd hj hv ha hb => h2.other hj hv hg ad bd ha hb)⟩, h3.2⟩
  obtain ⟨_, ho2, hd2⟩ := h2.2.1 j v y hv hy
  exact Own.beside (b := some ⟨g, 0, none⟩) (n := n) (c := c) ho2 h3.2 hd2
/-- A value is stored that is empty. -/
theorem OwnV.putZero {g : Nat} (h : OwnV tO tI w B (some ⟨g, 0, none⟩) n c l) {i : Nat} (hi : i < n) :
    OwnV tO tI ((w.setCell ⟨g, i * 2, none⟩ (.int .i64 0)).setCell ⟨g, i * 2 + 1, none⟩ (.slice none 0 0)) B (some ⟨g, 0, none⟩) n c (l.set i ⟨0, []⟩) ∧ w.grownBy ((w.setCell ⟨g, i * 2, none⟩ (.int .i64 0)).setCell ⟨g, i * 2 + 1, none⟩ (.slice none 0 0)) (some g) :=
  OwnV.put h (Below.refl _ _) hi 0 none 0 0 [] Own.nil (fun ad e => by cases e)
/-- The integers of a value are others, in the same block or in a new one. -/
theorem OwnV.putItems {g : Nat} {u : World} (h : OwnV tO tI u B (some ⟨g, 0, none⟩) n c l) {i : Nat} {x : Vl} {v : Vh} (hx : l[i]? = some x) (hi : OwnI Vh.enc 2 tO u B (some ⟨g, 0, none⟩) n c hs) (hr : RowsV tI u B (some ⟨g, 0, none⟩) hs l) (hv : hs[i]? = some v)
    {p : Option Addr} {m d : Nat} {y : List Int} (hg : u.grownBy w (Value.ownBlock (.slice v.p v.m v.c))) (ho : Own .i64 tI w B p m d y) (hp : ∀ ad, p = some ad → (∃ bd, v.p = some bd ∧ bd.block = ad.block) ∨ u.heap.size ≤ ad.block) :
    OwnV tO tI (w.setCell ⟨g, i * 2 + 1, none⟩ (.slice p m d)) B (some ⟨g, 0, none⟩) n c (l.set i ⟨x.num, y⟩) ∧ w.grownBy (w.setCell ⟨g, i * 2 + 1, none⟩ (.slice p m d)) (some g) := by
  have hgs := hi.span _ rfl
  dsimp only at hgs
  have hih : i < hs.length := by rw [hr.1]; exact lt_of_some hx
  obtain ⟨e1, hov, hdv⟩ := hr.2.1 i v x hv hx
  have hrow : ∀ ad, Value.ownBlock (.slice v.p v.m v.c) = some ad → ∃ bd, v.p = some bd ∧ bd.block = ad := fun ad e => by
    cases hvp : v.p with
    | none => rw [hvp] at e; simp [Value.ownBlock] at e
    | some bd => rw [hvp] at e; simp only [Value.ownBlock, Option.some.injEq] at e; exact ⟨bd, rfl, e⟩
  have h1 : OwnI Vh.enc 2 tO w B (some ⟨g, 0, none⟩) n c hs := hi.far hg fun ad e e2 => by
    cases e
    obtain ⟨bd, hb, hbb⟩ := hrow _ e2
    exact hdv bd _ hb rfl hbb
  have h3 := h1.2.stored (i * 2 + 1) (.slice p m d)
  rw [flatVh_hdr hs i v p m d hv] at h3
  have hpg : ∀ ad, p = some ad → ad.block ≠ g := fun ad e q => by
    rcases hp ad e with ⟨bd, hb, hbb⟩ | hlt
    · exact hdv bd _ hb rfl (by rw [hbb]; exact q)
    · omega
  have e2 : (⟨x.num, y⟩ : Vl) = ⟨v.num, y⟩ := by rw [e1]
  rw [e2]
  refine ⟨⟨_, ⟨by rw [List.length_set]; exact h1.len, h3.1⟩, hr.set hih ⟨v.num, p, m, d⟩ y (Own.beside (b := some ⟨g, 0, none⟩) (n := n) (c := c) ho h3.2 fun ad bd ha hb => by cases hb; exact hpg ad ha) (fun j q z hj hq hz => ?_) (fun ad bd ha hb => by cases hb; exact hpg ad ha) (fun j q ad bd hj hq ha hb => ?_)⟩, h3.2⟩
  · obtain ⟨_, ho2, hd2⟩ := hr.2.1 j q z hq hz
    refine Own.beside (b := some ⟨g, 0, none⟩) (n := n) (c := c) (ho2.far hg fun ad e e3 => ?_) h3.2 hd2
    obtain ⟨bd, hb, hbb⟩ := hrow _ e3
    exact hr.other hj hq hv bd ad hb e hbb
  · rcases hp ad ha with ⟨cd, hb2, hbb⟩ | hlt
    · rw [← hbb]
      exact hr.other hj hq hv cd bd hb2 hb
    · have := (hr.lt hq hb).2
      omega
end
section
variable {P : Program} (w : World)
/-- A value is appended to a list of values of the call's own. -/
theorem run_appV (t ty e tI : TypeId) (i : TypeInfo) (z : Value) (bytes : Nat) (ht : P.underlying t = some (.slice e)) (hi : P.info? e = some i) (hz : i.zero = some z) (hsize : i.size = 2) (hby : i.bytes = bytes) (hzs : z.cells.size = 2)
    {S B n c m d b o dd : Nat} {a p : Option Addr} {l : List Vl} {k : Int} {y : List Int} (ho : OwnVB S e tI w B a n c l) (hn : Items Vh.enc 2 w (some ⟨b, o, none⟩) 1 [⟨k, p, m, d⟩]) (hv : Own .i64 tI w B p m d y) (hf : ∀ ad, p = some ad → S ≤ ad.block)
    (hbytes : (n + 1) * bytes ≤ 140737488355328) (h63 : n + 1 ≤ maxLen) (hB : B ≤ w.heap.size) :
    ∃ a' c' w', (Builtin.append_ #[t, t] ty #[.slice a n c, .slice (some ⟨b, o, none⟩) 1 dd]).run P w = .ok (.slice a' (n + 1) c') w' ∧ OwnV e tI w' B a' (n + 1) c' (l ++ [⟨k, y⟩]) ∧ Below B w w' ∧ w.grownBy w' (Value.ownBlock (.slice a n c)) := by
  obtain ⟨hs, h1, h2, h3⟩ := ho
  obtain ⟨v', w', hr, q1, q2, _, q3⟩ := run_append_own_at (P := P) w B t ty e i z 2 bytes ht hi hz hsize hby hzs (by omega) (.slice a n c) n (flatOf Vh.enc hs) h1.2 ⟨b, o, none⟩ 1 dd (flatOf Vh.enc [⟨k, p, m, d⟩]) (by rw [flatOf_len Vh.enc_len]; rfl) (items_flat Vh.enc_len (by omega) hn) (fun u hu => by
      obtain ⟨x, _, hx⟩ := List.mem_flatMap.1 hu
      exact Vh.cells x u hx) h63 hbytes hB
  rw [← flatOf_app] at q1
  have hl : (hs ++ [(⟨k, p, m, d⟩ : Vh)]).length = n + 1 := by rw [List.length_append, h1.1]; rfl
  have hbw : Below B w w' := grown_to q2 (Below.refl B w) h1.span (Nat.le_refl _) hB
  rcases q1.2 with ⟨rfl, hn'⟩ | ⟨g, cap, cur, rfl, hrest⟩
  · omega
  · have hgb : (∃ bd, a = some bd ∧ bd.block = g) ∨ g = w.heap.size := by
      rcases q3 with e | e
      · left
        cases ha : a with
        | none => rw [ha] at e; simp [Value.ownBlock] at e
        | some bd => rw [ha] at e; simp only [Value.ownBlock, Option.some.injEq] at e; exact ⟨bd, rfl, e.symm⟩
      · right
        simpa [Value.ownBlock] using e
    have hpa : ∀ ad bd, p = some ad → a = some bd → ad.block ≠ bd.block := fun ad bd ha hb => by
      have := hf ad ha
      have := h3.1 bd hb
      omega
    have hpg : ∀ ad, p = some ad → ad.block ≠ g := fun ad ha => by
      rcases hgb with ⟨bd, hb, e⟩ | e
      · rw [← e]; exact hpa ad bd ha hb
      · have := (hv.span ad ha).2
        omega
    refine ⟨_, cap, w', hr, ⟨_, ⟨hl, q1⟩, by rw [List.length_append, List.length_append, h2.1]; rfl, fun j v x hj hx => ?_, fun j j' v v' hjj hj hj' ad bd ha hb => ?_⟩, hbw, q2⟩
    · rcases Nat.lt_or_ge j hs.length with q | q
      · rw [List.getElem?_append_left q] at hj
        rw [List.getElem?_append_left (by rw [← h2.1]; exact q)] at hx
        obtain ⟨e1, ho1, hd1⟩ := h2.2.1 j v x hj hx
        refine ⟨e1, ho1.beside q2 hd1, fun ad bd ha hb => ?_⟩
        cases hb
        rcases hgb with ⟨cd, hc, e⟩ | e
        · have := hd1 ad cd ha hc
          rw [e] at this
          exact this
        · have := (h2.lt hj ha).2
          dsimp only
          omega
      · obtain rfl : j = hs.length := by have := lt_of_some hj; rw [List.length_append] at this; simp at this; omega
        rw [List.getElem?_append_right (Nat.le_refl _), Nat.sub_self] at hj
        rw [List.getElem?_append_right (by rw [h2.1]; exact Nat.le_refl _), h2.1, Nat.sub_self] at hx
        cases hj
        cases hx
        exact ⟨rfl, hv.beside q2 hpa, fun ad bd ha hb => by cases hb; exact hpg ad ha⟩
    · have hjl : j < hs.length := by have := lt_of_some hj'; rw [List.length_append] at this; simp at this; omega
      rw [List.getElem?_append_left hjl] at hj
      rcases Nat.lt_or_ge j' hs.length with q | q
      · rw [List.getElem?_append_left q] at hj'
        exact h2.2.2 j j' v v' hjj hj hj' ad bd ha hb
      · obtain rfl : j' = hs.length := by have := lt_of_some hj'; rw [List.length_append] at this; simp at this; omega
        rw [List.getElem?_append_right (Nat.le_refl _), Nat.sub_self] at hj'
        cases hj'
        have := h3.2 j v ad hj ha
        have := hf bd hb
        omega
theorem wpl_appV {ops : Array Oper} {rest : List Oper} {o : Oper} {act : Act} {Q : Exit → Act → World → Prop} (hgd : o.guard = none) (q x : Operand) (t : TypeId)
    (ho : o.op = .call { callee := .builtin .append, args := #[q, x], argTypes := #[t, t] })
    (e tI : TypeId) (i : TypeInfo) (z : Value) (bytes : Nat) (ht : P.underlying t = some (.slice e)) (hi : P.info? e = some i) (hz : i.zero = some z) (hsize : i.size = 2) (hby : i.bytes = bytes) (hzs : z.cells.size = 2)
    {S B n c m d b off dd : Nat} {a p : Option Addr} {l : List Vl} {k : Int} {y : List Int} (hq : act.eval q = .slice a n c) (hown : OwnVB S e tI w B a n c l) (hx : act.eval x = .slice (some ⟨b, off, none⟩) 1 dd) (hnew : Items Vh.enc 2 w (some ⟨b, off, none⟩) 1 [⟨k, p, m, d⟩]) (hv : Own .i64 tI w B p m d y) (hf : ∀ ad, p = some ad → S ≤ ad.block)
    (hb1 : 0 < bytes) (hbytes : (n + 1) * bytes ≤ 140737488355328) (hB : B ≤ w.heap.size)
    (h : ∀ a' c' w', OwnV e tI w' B a' (n + 1) c' (l ++ [⟨k, y⟩]) → Below B w w' → wpList P ops Q rest (act.put o.dst (.slice a' (n + 1) c')) w') : wpList P ops Q (o :: rest) act w := by
  refine wpList_plain hgd fun K hK => ?_
  have h63 : n + 1 ≤ maxLen := by
    have := Nat.mul_le_mul_left (n + 1) hb1
    unfold maxLen
    omega
  obtain ⟨a', c', w', hr, h2, h3, h4⟩ := run_appV (P := P) (dd := dd) w t o.type e tI i z bytes ht hi hz hsize hby hzs hown hnew hv hf hbytes h63 hB
  unfold Oper.wp execOp
  simp only [ho, resolve, invoke, builtin, Sem.run_bind, Sem.run_pure, Result.andThen_ok, List.map_toArray, List.map_cons, List.map_nil, hq, hx, hr]
  exact hK _ _ (h a' c' w' h2 h3)
theorem wpl_appV2 {ops : Array Oper} {rest : List Oper} {o : Oper} {act : Act} {Q : Exit → Act → World → Prop} (hgd : o.guard = none) (q x : Operand) (t : TypeId)
    (ho : o.op = .call { callee := .builtin .append, args := #[q, x], argTypes := #[t, t] })
    (e tI : TypeId) (i : TypeInfo) (z : Value) (bytes : Nat) (ht : P.underlying t = some (.slice e)) (hi : P.info? e = some i) (hz : i.zero = some z) (hsize : i.size = 2) (hby : i.bytes = bytes) (hzs : z.cells.size = 2)
    {S B n c m d b off dd : Nat} {a p : Option Addr} {l : List Vl} {k : Int} {y : List Int} (hq : act.eval q = .slice a n c) (hown : OwnVB S e tI w B a n c l) (hx : act.eval x = .slice (some ⟨b, off, none⟩) 1 dd) (hnew : Items Vh.enc 2 w (some ⟨b, off, none⟩) 1 [⟨k, p, m, d⟩]) (hv : Own .i64 tI w B p m d y) (hf : ∀ ad, p = some ad → S ≤ ad.block)
    (hb1 : 0 < bytes) (hbytes : (n + 1) * bytes ≤ 140737488355328) (hB : B ≤ w.heap.size)
    (h : ∀ a' c' w', OwnV e tI w' B a' (n + 1) c' (l ++ [⟨k, y⟩]) → w.grownBy w' (Value.ownBlock (.slice a n c)) → wpList P ops Q rest (act.put o.dst (.slice a' (n + 1) c')) w') : wpList P ops Q (o :: rest) act w := by
  refine wpList_plain hgd fun K hK => ?_
  have h63 : n + 1 ≤ maxLen := by
    have := Nat.mul_le_mul_left (n + 1) hb1
    unfold maxLen
    omega
  obtain ⟨a', c', w', hr, h2, h3, h4⟩ := run_appV (P := P) (dd := dd) w t o.type e tI i z bytes ht hi hz hsize hby hzs hown hnew hv hf hbytes h63 hB
  unfold Oper.wp execOp
  simp only [ho, resolve, invoke, builtin, Sem.run_bind, Sem.run_pure, Result.andThen_ok, List.map_toArray, List.map_cons, List.map_nil, hq, hx, hr]
  exact hK _ _ (h a' c' w' h2 h4)
/-- The same at a step of a region that draws its order. -/
theorem step_appV {ops : Array Oper} {o : Oper} {act : Act} {K : Act → World → Prop} {Q : Exit → Act → World → Prop} {E : Prop} (hgd : o.guard = none) (q x : Operand) (t : TypeId)
    (ho : o.op = .call { callee := .builtin .append, args := #[q, x], argTypes := #[t, t] })
    (e tI : TypeId) (i : TypeInfo) (z : Value) (bytes : Nat) (ht : P.underlying t = some (.slice e)) (hi : P.info? e = some i) (hz : i.zero = some z) (hsize : i.size = 2) (hby : i.bytes = bytes) (hzs : z.cells.size = 2)
    {S B n c m d b off dd : Nat} {a p : Option Addr} {l : List Vl} {k : Int} {y : List Int} (hq : act.eval q = .slice a n c) (hown : OwnVB S e tI w B a n c l) (hx : act.eval x = .slice (some ⟨b, off, none⟩) 1 dd) (hnew : Items Vh.enc 2 w (some ⟨b, off, none⟩) 1 [⟨k, p, m, d⟩]) (hv : Own .i64 tI w B p m d y) (hf : ∀ ad, p = some ad → S ≤ ad.block)
    (hb1 : 0 < bytes) (hbytes : (n + 1) * bytes ≤ 140737488355328) (hB : B ≤ w.heap.size)
    (h : ∀ a' c' w', OwnV e tI w' B a' (n + 1) c' (l ++ [⟨k, y⟩]) → Below B w w' → K (act.put o.dst (.slice a' (n + 1) c')) w') :
    if Region.wanted o (yielded ops act.tmps) = true then Oper.wp P o act w K Q else E := by
  have hw : Region.wanted o (yielded ops act.tmps) = true := by simp [Region.wanted, hgd]
  rw [if_pos hw]
  have h63 : n + 1 ≤ maxLen := by
    have := Nat.mul_le_mul_left (n + 1) hb1
    unfold maxLen
    omega
  obtain ⟨a', c', w', hr, h2, h3, h4⟩ := run_appV (P := P) (dd := dd) w t o.type e tI i z bytes ht hi hz hsize hby hzs hown hnew hv hf hbytes h63 hB
  unfold Oper.wp execOp
  simp only [ho, resolve, invoke, builtin, Sem.run_bind, Sem.run_pure, Result.andThen_ok, List.map_toArray, List.map_cons, List.map_nil, hq, hx, hr]
  exact h a' c' w' h2 h3
/-- Integers are appended to a slice of the call's own, at a step of a region that draws its order: where the outcome lies. -/
theorem step_app3 {ops : Array Oper} {o : Oper} {act : Act} {K : Act → World → Prop} {Q : Exit → Act → World → Prop} {E : Prop} (hgd : o.guard = none) (s x : Operand) (t : TypeId)
    (ho : o.op = .call { callee := .builtin .append, args := #[s, x], argTypes := #[t, t] })
    (k : IntKind) (e : TypeId) (i : TypeInfo) (z : Value) (bytes : Nat) (ht : P.underlying t = some (.slice e)) (hi : P.info? e = some i) (hz : i.zero = some z) (hsize : i.size = 1) (hby : i.bytes = bytes) (hzs : z.cells.size = 1)
    {B n c m d : Nat} {a : Option Addr} {ad : Addr} {l l' : List Int} (hs : act.eval s = .slice a n c) (hown : Own k e w B a n c l) (hx : act.eval x = .slice (some ad) m d) (hnew : Nums k w (some ad) m l') (hm : 0 < m)
    (hb1 : 0 < bytes) (hbytes : (n + m) * bytes ≤ 140737488355328) (hB : B ≤ w.heap.size)
    (h : ∀ a' c' w', Own k e w' B a' (n + m) c' (l ++ l') → w.grownBy w' (Value.ownBlock (.slice a n c)) → (∀ cd, a' = some cd → (∃ bd, a = some bd ∧ bd.block = cd.block) ∨ cd.block = w.heap.size) → K (act.put o.dst (.slice a' (n + m) c')) w') :
    if Region.wanted o (yielded ops act.tmps) = true then Oper.wp P o act w K Q else E := by
  have hw : Region.wanted o (yielded ops act.tmps) = true := by simp [Region.wanted, hgd]
  rw [if_pos hw]
  have h63 : n + m ≤ maxLen := by
    have := Nat.mul_le_mul_left (n + m) hb1
    unfold maxLen
    omega
  obtain ⟨v', w', hr, h2, h3, _, h5⟩ := run_append_own_at (P := P) w B t o.type e i z 1 bytes ht hi hz hsize hby hzs (by omega) (.slice a n c) n (l.map (Value.int k)) hown.2 ad m d (l'.map (Value.int k)) (by simp [hnew.len]) (fun j u hu => by
      have hj : j < m := by
        rcases Nat.lt_or_ge j m with h | h
        · exact h
        · rw [List.getElem?_eq_none (by simp [hnew.len]; exact h)] at hu; cases hu
      obtain ⟨ad', e', hxx⟩ := hnew.cell j hj
      cases e'
      have hl : j < l'.length := by rw [hnew.len]; exact hj
      rw [List.getElem?_map, List.getElem?_eq_getElem hl] at hu
      cases hu
      rw [hxx]
      simp [List.getD, List.getElem?_eq_getElem hl]) (ints_oneCell k l') h63 hbytes hB
  rw [← List.map_append] at h2
  rcases h2.2 with ⟨rfl, hn⟩ | ⟨g, cap, cur, rfl, hrest⟩
  · omega
  · have hgb : (∃ bd, a = some bd ∧ bd.block = g) ∨ g = w.heap.size := by
      rcases h5 with e | e
      · left
        cases ha : a with
        | none => rw [ha] at e; simp [Value.ownBlock] at e
        | some bd => rw [ha] at e; simp only [Value.ownBlock, Option.some.injEq] at e; exact ⟨bd, rfl, e.symm⟩
      · right
        simpa [Value.ownBlock] using e
    unfold Oper.wp execOp
    simp only [ho, resolve, invoke, builtin, Sem.run_bind, Sem.run_pure, Result.andThen_ok, List.map_toArray, List.map_cons, List.map_nil, hs, hx, hr]
    exact h _ cap w' ⟨by have := hown.len; have := hnew.len; simp; omega, h2⟩ h3 (fun cd e => by cases e; exact hgb)
end
end Go.Proofs.Ytcpnchjgklemgaa
namespace Go.Proofs.Ytcpnchjgklemgaa
open Go.ChangeShapes Go.WideShapes Go.ChangeAt Go.RowKit
set_option linter.unusedVariables false

section
variable {tO tI : TypeId} {w w' : World} {B S n c : Nat} {a : Option Addr} {l : List Vl} {hs : List Vh}
theorem OwnVB.only {b : Nat} (h : OwnVB S tO tI w B a n c l) (ho : Only b w w') (hb : b < B) : OwnVB S tO tI w' B a n c l := h.far (only_grown ho) fun r e => by cases e; exact Or.inl hb
theorem OwnV.only {b : Nat} (h : OwnV tO tI w B a n c l) (ho : Only b w w') (hb : b < B) : OwnV tO tI w' B a n c l := (h.lim.only ho hb).ownV
end
end Go.Proofs.Ytcpnchjgklemgaa
namespace Go.Proofs.Ytcpnchjgklemgaa
open Go.ChangeShapes Go.WideShapes Go.ChangeAt Go.RowKit
set_option linter.unusedVariables false

theorem Items.only {α : Type} {enc : α → List Value} {s : Nat} {w w' : World} {a : Option Addr} {n b : Nat} {l : List α} (h : Items enc s w a n l) (ho : Only b w w') (hne : ∀ ad, a = some ad → ad.block ≠ b) : Items enc s w' a n l :=
  ⟨h.len, h.fits, fun j x hj => by
    obtain ⟨bb, o, e, hx⟩ := h.cell j x hj
    have h1 : bb ≠ b := hne _ e
    exact ⟨bb, o, e, fun i v hv => by rw [ho.cell (cell_in (hx i v hv)) h1]; exact hx i v hv⟩⟩
theorem told_bool {P : Program} {f : FuncId} {args : Array Value} {w : World} {x y : Bool} (e : x = y) (h : Calls P f args w (Told (.bool x) w)) : Calls P f args w (Told (.bool y) w) := e ▸ h
/-- Every number is an integer of 64 bits, and no value has more than r integers. -/
def Vok (r : Nat) (v : List Vl) : Prop := ∀ x ∈ v, (I64 x.num ∧ ∀ z ∈ x.items, I64 z) ∧ x.items.length ≤ r
theorem Vok.mono {r r' : Nat} {v : List Vl} (h : Vok r v) (hr : r ≤ r') : Vok r' v := fun x hx => ⟨(h x hx).1, Nat.le_trans (h x hx).2 hr⟩
theorem Vok.app {r : Nat} {v : List Vl} {k : Int} {y : List Int} (h : Vok r v) (hk : I64 k) (hy : ∀ z ∈ y, I64 z) (hl : y.length ≤ r) : Vok r (v ++ [⟨k, y⟩]) := fun x hx => by
  rcases List.mem_append.1 hx with q | q
  · exact h x q
  · rw [List.mem_singleton.1 q]
    exact ⟨⟨hk, hy⟩, hl⟩
set_option maxRecDepth 100000 in
theorem belowAny (b : Nat) (a : Option Addr) (n c : Nat) (m : Int) (hm : m ≤ 9223372036854775807) (w : World) (hc : Curs w b a n c) :
    Calls Try.prog 63 #[.pointer (some ⟨b, 0, none⟩), .int .i64 m] w fun e w' => ∃ x : Int, 0 ≤ x ∧ x ≤ 9223372036854775807 ∧ (x = 0 ∨ x < m) ∧ e = .returned (.int .i64 x) ∧ Drawn b a n c w w' := by
  by_cases h : 1 ≤ m
  · refine (below_any b a n c m h hm w hc).mono ?_
    rintro e w' ⟨x, h0, h1, he, hd⟩
    exact ⟨x, h0, by omega, Or.inr h1, he, hd⟩
  · refine (belowNo_any b a n c m (by omega) w).mono ?_
    rintro e w' ⟨he, rfl⟩
    exact ⟨0, by omega, by omega, Or.inl rfl, he, Drawn.refl hc⟩
/-- The beginning of a slice of the call's own. -/
theorem Own.cut {k : IntKind} {t : TypeId} {w : World} {B n c : Nat} {a : Option Addr} {l : List Int} (h : Own k t w B a n c l) {m : Nat} (hm : m ≤ n) (hn : 0 < n) : Own k t w B a m c (l.take m) := by
  refine ⟨by rw [List.length_take, h.len]; omega, by simp [h.len]; omega, ?_⟩
  rcases h.2.2 with ⟨_, h2⟩ | ⟨g, cap, cur, h1, hB, hg, hle, hcap, hcs, htk⟩
  · omega
  · injection h1 with e1 e2 e3
    subst e1
    subst e3
    refine Or.inr ⟨g, c, cur, rfl, hB, hg, by omega, hcap, hcs, ?_⟩
    rw [List.map_take, ← htk, List.take_take]
    congr 1
    omega
/-- A list of integers that is drawn. -/
def DrewI (b : Nat) (a : Option Addr) (n c most : Nat) (w : World) (e : Ending) (w' : World) : Prop :=
  ∃ (a' : Option Addr) (n' c' : Nat) (y : List Int), e = .returned (.slice a' n' c') ∧ Own .i64 3 w' w.heap.size a' n' c' y ∧ n' ≤ most ∧ Drawn b a n c w w'
theorem Vok.set {r : Nat} {v : List Vl} {k : Int} {y : List Int} (h : Vok r v) (i : Nat) (hk : I64 k) (hy : ∀ z ∈ y, I64 z) (hl : y.length ≤ r) : Vok r (v.set i ⟨k, y⟩) := fun x hx => by
  obtain ⟨j, hj⟩ := List.getElem?_of_mem hx
  by_cases e : j = i
  · subst e
    have hlt := lt_of_some hj
    rw [List.length_set] at hlt
    rw [List.getElem?_set_self hlt] at hj
    cases hj
    exact ⟨⟨hk, hy⟩, hl⟩
  · rw [List.getElem?_set_ne (by omega)] at hj
    exact h x (List.mem_of_getElem? hj)
end Go.Proofs.Ytcpnchjgklemgaa
