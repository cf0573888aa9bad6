/- Lists of values, each a number and a list of integers: what a walk is told of one that is read. No function of the program is spoken of. The helpers of the exact laws at lists of fields: copied, compared. The helpers of the exact laws at lists of values: measured, copied, compared. The helpers of the exact laws at lists of extensions: measured, copied, compared. Elements of any kind are appended to a slice of the call's own. No function of the program is spoken of. -/
import Derived.Test.YtnjjfagokbbelaaG1
import Derived.Deep.QuietTactic
import Derived.BigQuiet
import Derived.RegionTactic
import Derived.StillTailTactics
import Derived.Handy
namespace Go.Proofs.Ytnjjfagokbbelaa
open Go.ChangeShapes Go.WideShapes Go.ChangeAt Go.RowKit
set_option linter.unusedVariables false

/-- Values of messages. -/
structure Vl where
  num : Int
  items : List Int
/-- From a on lie n values: the list l. -/
structure Vals (w : World) (a : Option Addr) (n : Nat) (l : List Vl) : Prop where
  len : l.length = n
  fits : (n : Int) ≤ 9223372036854775807
  cell : ∀ j x, l[j]? = some x → ∃ b o p m c, a = some ⟨b, o, none⟩ ∧ w.cell? ⟨b, o + j * 2, none⟩ = some (.int .i64 x.num) ∧ w.cell? ⟨b, o + j * 2 + 1, none⟩ = some (.slice p m c) ∧ Nums .i64 w p m x.items ∧ m ≤ c ∧ (c : Int) ≤ 9223372036854775807
theorem Vals.nothing {w : World} : Vals w none 0 [] := ⟨rfl, by omega, fun j x h => by simp at h⟩
theorem Vals.same {w w' : World} {a : Option Addr} {n : Nat} {l : List Vl} (h : Vals w a n l) (hb : Below w.heap.size w w') : Vals w' a n l :=
  ⟨h.len, h.fits, fun j x hj => by
    obtain ⟨b, o, p, m, c, e, h0, h1, h2, h3⟩ := h.cell j x hj
    exact ⟨b, o, p, m, c, e, by rw [hb.cell (cell_in h0)]; exact h0, by rw [hb.cell (cell_in h1)]; exact h1, h2.same hb, h3⟩⟩
theorem Vals.at_ {w : World} {a : Option Addr} {n : Nat} {l : List Vl} (h : Vals w a n l) {j : Nat} (hj : j < n) : ∃ b o p m c k y, a = some ⟨b, o, none⟩ ∧ l[j]? = some ⟨k, y⟩ ∧ w.cell? ⟨b, o + j * 2, none⟩ = some (.int .i64 k) ∧ w.cell? ⟨b, o + j * 2 + 1, none⟩ = some (.slice p m c) ∧ Nums .i64 w p m y ∧ m ≤ c ∧ (c : Int) ≤ 9223372036854775807 := by
  have hl : j < l.length := by rw [h.len]; exact hj
  obtain ⟨b, o, p, m, c, e, h1⟩ := h.cell j _ (List.getElem?_eq_getElem hl)
  exact ⟨b, o, p, m, c, _, _, e, List.getElem?_eq_getElem hl, h1⟩
/-- How many integers the values hold. -/
def itemsOf (l : List Vl) : Nat := (l.map fun x => x.items.length).sum
theorem itemsOf_at {l : List Vl} {j : Nat} {x : Vl} (h : l[j]? = some x) : itemsOf (l.take (j + 1)) = itemsOf (l.take j) + x.items.length := by
  unfold itemsOf
  rw [List.take_add_one, h]
  simp
theorem itemsOf_le (l : List Vl) (j : Nat) : itemsOf (l.take j) ≤ itemsOf l := by
  conv => rhs; rw [← List.take_append_drop j l]
  unfold itemsOf
  rw [List.map_append, List.sum_append]
  omega
theorem itemsOf_mem {l : List Vl} {j : Nat} {x : Vl} (h : l[j]? = some x) : x.items.length ≤ itemsOf l := by
  have h1 := itemsOf_at h
  have h2 := itemsOf_le l (j + 1)
  omega
theorem no_nums {k : IntKind} {w : World} {a : Option Addr} {l : List Int} (h : Nums k w a 0 l) : l = [] := List.eq_nil_of_length_eq_zero h.len

/-- A value as it lies in memory: its number, and where its integers lie. -/
structure Vh where
  num : Int
  p : Option Addr
  m : Nat
  c : Nat
def Vh.enc (x : Vh) : List Value := [.int .i64 x.num, .slice x.p x.m x.c]
theorem Vh.enc_len (x : Vh) : x.enc.length = 2 := rfl
theorem Vh.cells (x : Vh) : ∀ u ∈ x.enc, u.oneCell' = true := by
  intro u hu
  simp only [Vh.enc, List.mem_cons, List.not_mem_nil, or_false] at hu
  rcases hu with rfl | rfl <;> rfl
/-- The integers of the values lie in memory of the call's own, each value's apart from the others' and from the values themselves. -/
def RowsV (t : TypeId) (w : World) (B : Nat) (a : Option Addr) (hs : List Vh) (l : List Vl) : Prop :=
  hs.length = l.length ∧
  (∀ (j : Nat) (h : Vh) (x : Vl), hs[j]? = some h → l[j]? = some x → x.num = h.num ∧ Own .i64 t w B h.p h.m h.c x.items ∧ ∀ ad bd, h.p = some ad → a = some bd → ad.block ≠ bd.block) ∧
  ∀ (i j : Nat) (h k : Vh), i < j → hs[i]? = some h → hs[j]? = some k → ∀ ad bd, h.p = some ad → k.p = some bd → ad.block ≠ bd.block
/-- The list of values is the call's own, in blocks from B on. -/
def OwnV (tO tI : TypeId) (w : World) (B : Nat) (a : Option Addr) (n c : Nat) (l : List Vl) : Prop :=
  ∃ hs : List Vh, OwnI Vh.enc 2 tO w B a n c hs ∧ RowsV tI w B a hs l
section
variable {tO tI : TypeId} {w w' : World} {B n c : Nat} {a : Option Addr} {l : List Vl} {hs : List Vh}
theorem lt_of_some {α : Type} {l : List α} {j : Nat} {x : α} (h : l[j]? = some x) : j < l.length := by
  rcases Nat.lt_or_ge j l.length with q | q
  · exact q
  · rw [List.getElem?_eq_none q] at h; cases h
theorem RowsV.same (h : RowsV tI w B a hs l) (hb : Below w.heap.size w w') : RowsV tI w' B a hs l :=
  ⟨h.1, fun j g x h1 h2 => by
    obtain ⟨e, ho, hd⟩ := h.2.1 j g x h1 h2
    exact ⟨e, ho.same hb, hd⟩, h.2.2⟩
theorem OwnV.len (h : OwnV tO tI w B a n c l) : l.length = n := by
  obtain ⟨hs, h1, h2⟩ := h
  rw [← h2.1, h1.len]
theorem OwnV.room (h : OwnV tO tI w B a n c l) : n ≤ c ∧ (c : Int) ≤ 9223372036854775807 := by
  obtain ⟨hs, h1, h2⟩ := h
  exact h1.room
theorem OwnV.span (h : OwnV tO tI w B a n c l) : Span a B w.heap.size := by
  obtain ⟨hs, h1, h2⟩ := h
  exact h1.span
theorem OwnV.vals (h : OwnV tO tI w B a n c l) : Vals w a n l := by
  have hl := h.len
  have hr := h.room
  obtain ⟨hs, h1, h2⟩ := h
  refine ⟨hl, by omega, fun j x hx => ?_⟩
  have hj : j < hs.length := by rw [h2.1]; exact lt_of_some hx
  obtain ⟨b, o, g, e, hg, hc⟩ := (h1.items Vh.enc_len).at_ (j := j) (by rw [← h1.len]; exact hj)
  obtain ⟨en, ho, _⟩ := h2.2.1 j g x hg hx
  refine ⟨b, o, g.p, g.m, g.c, e, ?_, hc 1 _ rfl, ho.nums, ho.room⟩
  rw [en]
  simpa using hc 0 _ rfl
theorem OwnV.same (h : OwnV tO tI w B a n c l) (hb : Below w.heap.size w w') : OwnV tO tI w' B a n c l := by
  obtain ⟨hs, h1, h2⟩ := h
  exact ⟨hs, h1.same hb, h2.same hb⟩
theorem OwnV.lower (h : OwnV tO tI w B a n c l) {B' : Nat} (hB : B' ≤ B) : OwnV tO tI w B' a n c l := by
  obtain ⟨hs, h1, h2⟩ := h
  exact ⟨hs, h1.lower hB, h2.1, fun j g x q1 q2 => by
    obtain ⟨e, ho, hd⟩ := h2.2.1 j g x q1 q2
    exact ⟨e, ho.lower hB, hd⟩, h2.2.2⟩
theorem OwnV.nil : OwnV tO tI w B none 0 0 [] := ⟨[], OwnI.nil, rfl, fun j g x h => by simp at h, fun i j h k _ h' => by simp at h'⟩
/-- A write to the outer row alone leaves what the integers are. -/
theorem Own.beside {k : IntKind} {t : TypeId} {p b : Option Addr} {m d n c : Nat} {y : List Int} (h : Own k t w B p m d y) (hg : w.grownBy w' (Value.ownBlock (.slice b n c))) (hd : ∀ ad bd, p = some ad → b = some bd → ad.block ≠ bd.block) : Own k t w' B p m d y := by
  cases p with
  | none => exact ⟨h.1, h.2.kept hg (Or.inl rfl)⟩
  | some ad =>
    refine ⟨h.1, h.2.kept hg (Or.inr ?_)⟩
    cases b with
    | none => simp [Value.ownBlock]
    | some be =>
      have := hd ad be rfl rfl
      simpa [Value.ownBlock] using this
theorem RowsV.beside (h : RowsV tI w B a hs l) (hg : w.grownBy w' (Value.ownBlock (.slice a n c))) : ∀ (j : Nat) (g : Vh) (x : Vl), hs[j]? = some g → l[j]? = some x → x.num = g.num ∧ Own .i64 tI w' B g.p g.m g.c x.items := fun j g x h1 h2 => by
  obtain ⟨e, ho, hd⟩ := h.2.1 j g x h1 h2
  exact ⟨e, ho.beside hg hd⟩
/-- What a row owns, two cells later. -/
theorem stored2 {t : TypeId} {s g cap : Nat} {xs : List Value} (h : w.ownsRow B t s (.slice (some ⟨g, 0, none⟩) n cap) n xs) (j0 j1 : Nat) (v0 v1 : Value) :
    ((w.setCell ⟨g, j0, none⟩ v0).setCell ⟨g, j1, none⟩ v1).ownsRow B t s (.slice (some ⟨g, 0, none⟩) n cap) n ((xs.set j0 v0).set j1 v1) ∧
    w.grownBy ((w.setCell ⟨g, j0, none⟩ v0).setCell ⟨g, j1, none⟩ v1) (some g) := by
  have h0 := h.stored j0 v0
  have h1 := h0.1.stored j1 v1
  exact ⟨h1.1, h0.2.trans h1.2⟩
theorem flatVh_put : ∀ (hs : List Vh) (i : Nat) (g : Vh), i < hs.length → ((flatOf Vh.enc hs).set (i * 2) (.int .i64 g.num)).set (i * 2 + 1) (.slice g.p g.m g.c) = flatOf Vh.enc (hs.set i g)
  | [], i, g, h => by simp at h
  | y :: t, 0, g, h => by
    have e : flatOf Vh.enc (y :: t) = .int .i64 y.num :: .slice y.p y.m y.c :: flatOf Vh.enc t := by simp [flatOf, Vh.enc]
    rw [e]
    simp [flatOf, Vh.enc]
  | y :: t, i + 1, g, h => by
    have ih := flatVh_put t i g (by simpa using h)
    have e : flatOf Vh.enc (y :: t) = .int .i64 y.num :: .slice y.p y.m y.c :: flatOf Vh.enc t := by simp [flatOf, Vh.enc]
    rw [e, show (i + 1) * 2 = i * 2 + 1 + 1 by omega, List.set_cons_succ, List.set_cons_succ, List.set_cons_succ, List.set_cons_succ, ih, List.set_cons_succ]
    simp [flatOf, Vh.enc]
/-- The integers of a value lie in blocks that are there. -/
theorem RowsV.lt (h : RowsV tI w B a hs l) {j : Nat} {k : Vh} (hk : hs[j]? = some k) {ad : Addr} (e : k.p = some ad) : B ≤ ad.block ∧ ad.block < w.heap.size := by
  have hj : j < l.length := by rw [← h.1]; exact lt_of_some hk
  obtain ⟨_, ho, _⟩ := h.2.1 j k _ hk (List.getElem?_eq_getElem hj)
  exact ho.span ad e
/-- A value whose integers lie in memory that is newer than the list is put at place i. -/
theorem OwnV.put {u : World} {g : Nat} (h : OwnV tO tI u B (some ⟨g, 0, none⟩) n c l) (hb : Below u.heap.size u w) {i : Nat} (hi : i < n) (k : Int) (p : Option Addr) (m d : Nat) (y : List Int) (hv : Own .i64 tI w B p m d y)
    (hf : ∀ ad, p = some ad → u.heap.size ≤ ad.block) :
    OwnV tO tI ((w.setCell ⟨g, i * 2, none⟩ (.int .i64 k)).setCell ⟨g, i * 2 + 1, none⟩ (.slice p m d)) B (some ⟨g, 0, none⟩) n c (l.set i ⟨k, y⟩) ∧ w.grownBy ((w.setCell ⟨g, i * 2, none⟩ (.int .i64 k)).setCell ⟨g, i * 2 + 1, none⟩ (.slice p m d)) (some g) := by
  have hl := h.len
  have hgs := h.span _ rfl
  dsimp only at hgs
  obtain ⟨hs, h1, h2⟩ := h
  have hlt := fun (j : Nat) (k : Vh) (ad : Addr) (hk : hs[j]? = some k) (e : k.p = some ad) => (h2.lt hk e).2
  have h1' := h1.same hb
  have h2' := h2.same hb
  have h3 := stored2 h1'.2 (i * 2) (i * 2 + 1) (.int .i64 k) (.slice p m d)
  have hih : i < hs.length := by rw [h1.len]; exact hi
  rw [flatVh_put hs i ⟨k, p, m, d⟩ hih] at h3
  refine ⟨⟨hs.set i ⟨k, p, m, d⟩, ⟨by rw [List.length_set]; exact h1.len, h3.1⟩, by rw [List.length_set, List.length_set]; exact h2.1, fun j v x hk hx => ?_, fun j j' v v' hjj hk hk' ad bd ha hb' => ?_⟩, h3.2⟩
  · by_cases e : j = i
    · subst e
      rw [List.getElem?_set_self hih] at hk
      rw [List.getElem?_set_self (by rw [hl]; exact hi)] at hx
      cases hk
      cases hx
      refine ⟨rfl, Own.beside (b := some ⟨g, 0, none⟩) (n := n) (c := c) hv h3.2 fun ad bd ha hb' => ?_, fun ad bd ha hb' => ?_⟩
      · cases hb'
        have := hf ad ha
        dsimp only
        omega
      · cases hb'
        have := hf ad ha
        dsimp only
        omega
    · rw [List.getElem?_set_ne (by omega)] at hk hx
      obtain ⟨e1, ho, hd1⟩ := h2'.2.1 j v x hk hx
      exact ⟨e1, Own.beside (b := some ⟨g, 0, none⟩) (n := n) (c := c) ho h3.2 hd1, hd1⟩
  · by_cases e : j = i
    · subst e
      rw [List.getElem?_set_self hih] at hk
      rw [List.getElem?_set_ne (by omega)] at hk'
      cases hk
      have := hlt j' v' bd hk' hb'
      have := hf ad ha
      omega
    · rw [List.getElem?_set_ne (by omega)] at hk
      by_cases e' : j' = i
      · subst e'
        rw [List.getElem?_set_self hih] at hk'
        cases hk'
        have := hlt j v ad hk ha
        have := hf bd hb'
        omega
      · rw [List.getElem?_set_ne (by omega)] at hk'
        exact h2'.2.2 j j' v v' hjj hk hk' ad bd ha hb'
/-- Values that are all empty. -/
theorem OwnV.zeros (h : w.ownsRow B tO 2 (.slice a n c) n (flatOf Vh.enc (List.replicate n ⟨0, none, 0, 0⟩))) : OwnV tO tI w B a n c (List.replicate n ⟨0, []⟩) := by
  refine ⟨List.replicate n ⟨0, none, 0, 0⟩, ⟨by simp, h⟩, by simp, fun j v x hk hx => ?_, fun i j v v' _ hk _ ad bd ha _ => ?_⟩
  · have e1 := List.mem_replicate.1 (List.mem_of_getElem? hk)
    have e2 := List.mem_replicate.1 (List.mem_of_getElem? hx)
    rw [e1.2, e2.2]
    exact ⟨rfl, Own.nil, fun ad bd ha => by cases ha⟩
  · have e1 := List.mem_replicate.1 (List.mem_of_getElem? hk)
    rw [e1.2] at ha
    cases ha
theorem made2 (n : Nat) : (madeCells (Value.agg #[.int .i64 0, .slice none 0 0]).cells (n * 2)).toList = flatOf Vh.enc (List.replicate n ⟨0, none, 0, 0⟩) := by
  apply List.ext_getElem?
  intro i
  by_cases hi : i < n * 2
  · have hlt : i / 2 < n := Nat.div_lt_of_lt_mul (by omega)
    have h2 := flatOf_at Vh.enc_len (List.replicate n ⟨0, none, 0, 0⟩) (i / 2) ⟨0, none, 0, 0⟩ (i % 2) (by simp [hlt]) (Nat.mod_lt _ (by omega))
    rw [show i / 2 * 2 + i % 2 = i by omega] at h2
    rw [h2]
    have h3 : i % 2 < 2 := Nat.mod_lt _ (by omega)
    have h4 : (madeCells (Value.agg #[.int .i64 0, .slice none 0 0]).cells (n * 2)).toList[i]? = some ((#[.int .i64 0, .slice none 0 0] : Array Value)[i % 2]!) := by
      simp [madeCells, Value.cells, hi]
    rw [h4]
    match i % 2, h3 with
    | 0, _ => rfl
    | 1, _ => rfl
  · rw [List.getElem?_eq_none (by simp [madeCells]; omega), List.getElem?_eq_none (by rw [flatOf_len Vh.enc_len]; simp; omega)]
end
/-- One cell of another block is written. -/
theorem set_grown (w : World) (b o : Nat) (v : Value) : w.grownBy (w.setCell ⟨b, o, none⟩ v) (some b) :=
  ⟨rfl, rfl, rfl, ((Below.refl 0 w).setCell (Nat.zero_le _) v).size, fun i hi hne => Below.heap_setCell _ _ _ _ (fun e => hne (by rw [e]))⟩
theorem Own.set {k : IntKind} {t : TypeId} {w : World} {B n c b : Nat} {a : Option Addr} {l : List Int} (h : Own k t w B a n c l) (hd : ∀ ad, a = some ad → ad.block ≠ b) (o : Nat) (v : Value) : Own k t (w.setCell ⟨b, o, none⟩ v) B a n c l := by
  cases a with
  | none => exact ⟨h.1, h.2.kept (set_grown w b o v) (Or.inl rfl)⟩
  | some ad =>
    refine ⟨h.1, h.2.kept (set_grown w b o v) (Or.inr ?_)⟩
    have := hd ad rfl
    simpa [Value.ownBlock] using this
/-- What a function leaves that makes a list of values. -/
def MadeV (tO tI : TypeId) (B : Nat) (l : List Vl) (w : World) (e : Ending) (w' : World) : Prop :=
  ∃ a n c, e = .returned (.slice a n c) ∧ OwnV tO tI w' B a n c l ∧ Below B w w'
end Go.Proofs.Ytnjjfagokbbelaa
namespace Go.Proofs.Ytnjjfagokbbelaa
open Go.ChangeShapes Go.WideShapes Go.ChangeAt Go.RowKit
set_option linter.unusedVariables false

theorem infoFieldS : (Try.prog.info? 92).map (fun i => (i.zero, i.size, i.bytes)) = some (some (.agg #[.int .i64 0, .int .i64 0, .int .i64 0, .int .i64 0]), 4, 32) := by kernel_rfl

theorem set4 (A : List Value) (p : Nat) (hA : A.length = p) (a b c d : Value) (R : List Value) (v0 v1 v2 v3 : Value) :
    ((((A ++ a :: b :: c :: d :: R).set p v0).set (p + 1) v1).set (p + 2) v2).set (p + 3) v3 = A ++ v0 :: v1 :: v2 :: v3 :: R := by
  subst hA
  rw [List.set_append_right _ _ (Nat.le_refl _), Nat.sub_self, List.set_cons_zero, List.set_append_right _ _ (by omega), List.set_append_right _ _ (by omega), List.set_append_right _ _ (by omega)]
  simp [show A.length + 1 - A.length = 1 by omega, show A.length + 2 - A.length = 2 by omega, show A.length + 3 - A.length = 3 by omega]
def zeroCell : Value := .int .i64 0
def fillF (l : List Fd) (j n : Nat) : List Value := flatOf Fd.enc (l.take j) ++ List.replicate ((n - j) * 4) zeroCell
theorem fillF_zero (l : List Fd) (n : Nat) : fillF l 0 n = List.replicate (n * 4) zeroCell := by simp [fillF, flatOf]
theorem fillF_all (l : List Fd) (n : Nat) (h : l.length = n) : fillF l n n = flatOf Fd.enc l := by
  unfold fillF
  rw [List.take_of_length_le (by omega), Nat.sub_self]
  simp
theorem fillF_step {l : List Fd} {j n : Nat} {x : Fd} (hj : l[j]? = some x) (hn : l.length = n) :
    ((((fillF l j n).set (j * 4) (.int .i64 x.kind)).set (j * 4 + 1) (.int .i64 x.max)).set (j * 4 + 2) (.int .i64 x.cond)).set (j * 4 + 3) (.int .i64 x.is) = fillF l (j + 1) n := by
  have hlt : j < l.length := by
    rcases Nat.lt_or_ge j l.length with h | h
    · exact h
    · rw [List.getElem?_eq_none h] at hj; cases hj
  unfold fillF
  rw [show (n - j) * 4 = (n - (j + 1)) * 4 + 1 + 1 + 1 + 1 by omega, List.replicate_succ, List.replicate_succ, List.replicate_succ, List.replicate_succ, set4 _ (j * 4) (by rw [flatOf_len Fd.enc_len, List.length_take]; omega), List.take_add_one, hj]
  simp [flatOf, Fd.enc]
theorem fillF_len {l : List Fd} {j n : Nat} (hn : l.length = n) (hj : j ≤ n) : (fillF l j n).length = n * 4 := by
  unfold fillF
  rw [List.length_append, flatOf_len Fd.enc_len, List.length_take, List.length_replicate]
  omega
theorem made4 (n : Nat) : (madeCells (Value.agg #[.int .i64 0, .int .i64 0, .int .i64 0, .int .i64 0]).cells (n * 4)).toList = List.replicate (n * 4) zeroCell := by
  apply List.ext_getElem
  · simp [madeCells]
  · intro i h1 h2
    simp only [madeCells, Value.cells, List.getElem_replicate, Array.getElem_toList, Array.getElem_map, Array.getElem_range]
    have : i % 4 < 4 := Nat.mod_lt _ (by omega)
    show (#[zeroCell, zeroCell, zeroCell, zeroCell] : Array Value)[i % 4]! = zeroCell
    match i % 4, this with
    | 0, _ => rfl
    | 1, _ => rfl
    | 2, _ => rfl
    | 3, _ => rfl

/-- Cells in a row of the call's own are there, whatever they hold. -/
theorem row_cell {w : World} {B : Nat} {t : TypeId} {s g n cap : Nat} {xs : List Value} (h : w.ownsRow B t s (.slice (some ⟨g, 0, none⟩) n cap) n xs) {k : Nat} (hk : k < n * s) : ∃ u, w.cell? ⟨g, k, none⟩ = some u := by
  rw [h.cellAt k hk]
  have : k < xs.length := by rw [h.1]; exact hk
  exact ⟨_, List.getElem?_eq_getElem this⟩

end Go.Proofs.Ytnjjfagokbbelaa
namespace Go.Proofs.Ytnjjfagokbbelaa
open Go.ChangeShapes Go.WideShapes Go.ChangeAt Go.RowKit
set_option linter.unusedVariables false

theorem infoValueS : (Try.prog.info? 60).map (fun i => (i.zero, i.size, i.bytes)) = some (some (.agg #[.int .i64 0, .slice none 0 0]), 2, 32) := by kernel_rfl

/-- What is left of a bound. -/
def leftOf (left : Int) (n : Nat) : Int := if (n : Int) ≤ left then left - n else -1
set_option maxRecDepth 100000 in
theorem szIntS_any (a : Option Addr) (n c : Nat) (left : Int) (w : World) (hn : (n : Int) ≤ 9223372036854775807) (h0 : 0 ≤ left) (hl : left ≤ 1048576) :
    Calls Try.prog 94 #[.slice a n c, .int .i64 left] w fun e w' => e = .returned (.int .i64 (leftOf left n)) ∧ w = w' := by
  by_cases h : (n : Int) ≤ left
  · have e : leftOf left n = left - n := if_pos h
    rw [e]
    go_enter Try.func94, Try.ntmps94
    go_wp2
    go_ret
    exact ⟨rfl, rfl⟩
  · have e : leftOf left n = -1 := if_neg h
    rw [e]
    go_enter Try.func94, Try.ntmps94
    go_wp2
    go_ret
    exact ⟨rfl, rfl⟩
theorem put_step {l : List Vl} {j n : Nat} {x : Vl} (hj : l[j]? = some x) (hn : l.length = n) : (l.take j ++ List.replicate (n - j) (⟨0, []⟩ : Vl)).set j x = l.take (j + 1) ++ List.replicate (n - (j + 1)) (⟨0, []⟩ : Vl) := by
  have hlt : j < l.length := lt_of_some hj
  have hl : (l.take j).length = j := by rw [List.length_take]; omega
  rw [List.set_append_right _ _ (by omega), hl, Nat.sub_self, show n - j = (n - (j + 1)) + 1 by omega, List.replicate_succ, List.set_cons_zero, List.take_add_one, hj]
  simp
end Go.Proofs.Ytnjjfagokbbelaa
namespace Go.Proofs.Ytnjjfagokbbelaa
open Go.ChangeShapes Go.WideShapes Go.ChangeAt Go.RowKit
set_option linter.unusedVariables false

theorem infoExtS : (Try.prog.info? 57).map (fun i => (i.zero, i.size, i.bytes)) = some (some (.agg #[.int .i64 0, .slice none 0 0]), 2, 32) := by kernel_rfl
set_option maxRecDepth 100000 in
theorem szExt_any (k : Int) (a : Option Addr) (n c : Nat) (left : Int) (w : World) (hn : (n : Int) ≤ 9223372036854775807) (h0 : 0 ≤ left) (hl : left ≤ 1048576) :
    Calls Try.prog 73 #[.agg #[.int .i64 k, .slice a n c], .int .i64 left] w (Told (.int .i64 (leftOf left n)) w) := by
  by_cases h : (n : Int) ≤ left
  · have e : leftOf left n = left - n := if_pos h
    have K := Lib.hid (fun w' => szIntS_any a n c left w' hn h0 hl)
    rw [e] at K ⊢
    clear e
    go_enter Try.func73, Try.ntmps73
    go_wp2_with fail
    refine (K.out _).mono ?_
    rintro e w1 ⟨rfl, rfl⟩
    go_wp2_with fail
    go_ret
    exact ⟨rfl, (Below.refl _ w).alloc (Nat.le_refl _) _⟩
  · have e : leftOf left n = -1 := if_neg h
    have K := Lib.hid (fun w' => szIntS_any a n c left w' hn h0 hl)
    rw [e] at K ⊢
    clear e
    go_enter Try.func73, Try.ntmps73
    go_wp2_with fail
    refine (K.out _).mono ?_
    rintro e w1 ⟨rfl, rfl⟩
    go_wp2_with fail
    go_ret
    exact ⟨rfl, (Below.refl _ w).alloc (Nat.le_refl _) _⟩
set_option maxRecDepth 100000 in
theorem szExtS_yes (a : Option Addr) (n c : Nat) (l : List Vl) (left : Int) (w : World) (h : Vals w a n l) (hl : left ≤ 1048576) (hs : (n : Int) + itemsOf l ≤ left) :
    Calls Try.prog 33 #[.slice a n c, .int .i64 left] w (Told (.int .i64 (left - n - itemsOf l)) w) := by
  have H := Lib.hid h
  have hln := Lib.hid h.len
  clear h
  go_enter Try.func33, Try.ntmps33
  go_wp2_with fail
  go_loopw [1, 5] (fun q i wr => ∃ j : Nat, j ≤ n ∧ i = .int .i64 j ∧ q = .int .i64 (left - n - itemsOf (l.take j)) ∧ Below w.heap.size w wr) (fun _ i _ => n - (intOf i).toNat)
  case atStart => exact ⟨0, Nat.zero_le _, rfl, by simp [itemsOf], Below.refl _ _⟩
  case round =>
    obtain ⟨j, hj, rfl, rfl, hb⟩ := hrel
    have HB := Lib.hid hb
    clear hb
    by_cases hlt : j < n
    · obtain ⟨b, o, p, m, d, k, y, rfl, hx, hc0, hc1, hN, hr⟩ := (H.out.same HB.out).at_ hlt
      have hst := itemsOf_at hx
      have hle := itemsOf_le l (j + 1)
      have hym := hN.len
      dsimp only at hst
      have hlo : leftOf (left - n - itemsOf (l.take j)) m = left - n - itemsOf (l.take (j + 1)) := by
        unfold leftOf
        rw [if_pos (by omega)]
        omega
      have HL := Lib.hid hlo
      clear hx hN hlo
      go_wp2_with fail
      refine (szExt_any k p m d _ _ (by omega) (by omega) (by omega)).mono ?_
      rw [HL.out]
      rintro e w2 ⟨rfl, hb2⟩
      have HB2 := Lib.hid (HB.out.trans (hb2.mono HB.out.size))
      clear hb2 hc0 hc1
      go_wp2_with fail
      go_roundw
      case rel => exact ⟨j + 1, by omega, by go_num, by congr 1; omega, HB2.out⟩
      case measure => simp [intOf]; omega
    · obtain rfl : j = n := by omega
      go_wp2_with fail
      go_ret
      rw [List.take_of_length_le (by rw [hln.out]; omega)]
      exact ⟨rfl, HB.out⟩
set_option maxRecDepth 100000 in
theorem szExtS_no (a : Option Addr) (n c : Nat) (l : List Vl) (left : Int) (w : World) (h : Vals w a n l) (h0 : 0 ≤ left) (hl : left ≤ 1048576) (hs : left < (n : Int) + itemsOf l) :
    Calls Try.prog 33 #[.slice a n c, .int .i64 left] w (Told (.int .i64 (-1)) w) := by
  have H := Lib.hid h
  have hln := Lib.hid h.len
  have hfit := h.fits
  clear h
  by_cases hn : (n : Int) ≤ left
  · go_enter Try.func33, Try.ntmps33
    go_wp2_with fail
    go_loopw [1, 5] (fun q i wr => ∃ j : Nat, j ≤ n ∧ i = .int .i64 j ∧ q = .int .i64 (left - n - itemsOf (l.take j)) ∧ (n : Int) + itemsOf (l.take j) ≤ left ∧ Below w.heap.size w wr) (fun _ i _ => n - (intOf i).toNat)
    case atStart => exact ⟨0, Nat.zero_le _, rfl, by simp [itemsOf], by simp [itemsOf]; omega, Below.refl _ _⟩
    case round =>
      obtain ⟨j, hj, rfl, rfl, hin, hb⟩ := hrel
      have HB := Lib.hid hb
      clear hb
      by_cases hlt : j < n
      · obtain ⟨b, o, p, m, d, k, y, rfl, hx, hc0, hc1, hN, hr⟩ := (H.out.same HB.out).at_ hlt
        have hst := itemsOf_at hx
        have hym := hN.len
        dsimp only at hst
        clear hx hN
        by_cases hm : (m : Int) ≤ left - n - itemsOf (l.take j)
        · have hlo : leftOf (left - n - itemsOf (l.take j)) m = left - n - itemsOf (l.take (j + 1)) := by
            unfold leftOf
            rw [if_pos (by omega)]
            omega
          have HL := Lib.hid hlo
          clear hlo
          go_wp2_with fail
          refine (szExt_any k p m d _ _ (by omega) (by omega) (by omega)).mono ?_
          rw [HL.out]
          rintro e w2 ⟨rfl, hb2⟩
          have HB2 := Lib.hid (HB.out.trans (hb2.mono HB.out.size))
          clear hb2 hc0 hc1
          go_wp2_with fail
          go_roundw
          case rel => exact ⟨j + 1, by omega, by go_num, by congr 1; omega, by omega, HB2.out⟩
          case measure => simp [intOf]; omega
        · have hlo : leftOf (left - n - itemsOf (l.take j)) m = -1 := if_neg hm
          have HL := Lib.hid hlo
          clear hlo
          go_wp2_with fail
          refine (szExt_any k p m d _ _ (by omega) (by omega) (by omega)).mono ?_
          rw [HL.out]
          rintro e w2 ⟨rfl, hb2⟩
          have HB2 := Lib.hid (HB.out.trans (hb2.mono HB.out.size))
          clear hb2 hc0 hc1
          go_wp2_with fail
          go_ret
          exact ⟨rfl, HB2.out⟩
      · exfalso
        obtain rfl : j = n := by omega
        rw [List.take_of_length_le (by rw [hln.out]; omega)] at hin
        omega
  · go_enter Try.func33, Try.ntmps33
    go_wp2_with fail
    go_ret
    exact ⟨rfl, Below.refl _ _⟩
set_option maxRecDepth 100000 in
theorem toExt_any (k : Int) (a : Option Addr) (n c : Nat) (y : List Int) (w : World) (h : Nums .i64 w a n y) (hn : n ≤ 1048576000) :
    Calls Try.prog 75 #[.agg #[.int .i64 k, .slice a n c]] w fun e w' => ∃ q m d, e = .returned (.agg #[.int .i64 k, .slice q m d]) ∧ Own .i64 3 w' w.heap.size q m d y ∧ Below w.heap.size w w' := by
  have H := Lib.hid h
  clear h
  go_enter Try.func75, Try.ntmps75
  go_wp2_with fail
  have HW0 : Hid (Below w.heap.size w (((w.alloc (.cells #[.int .i64 k, .slice a n c] 88)).alloc (.cells #[.int .i64 0, .slice none 0 0] 57)).alloc (.cells #[.int .i64 k, .slice none 0 0] 57))) := Lib.hid ((((Below.refl _ w).alloc (Nat.le_refl _) _).alloc (by simp) _).alloc (by simp; omega) _)
  have hL : (((w.alloc (.cells #[.int .i64 k, .slice a n c] 88)).alloc (.cells #[.int .i64 0, .slice none 0 0] 57)).alloc (.cells #[.int .i64 k, .slice none 0 0] 57)).heap[w.heap.size + 1 + 1]? = some (.cells #[.int .i64 k, .slice none 0 0] 57 (0, 0)) := by
    have := heap_alloc_new ((w.alloc (.cells #[.int .i64 k, .slice a n c] 88)).alloc (.cells #[.int .i64 0, .slice none 0 0] 57)) (.cells #[.int .i64 k, .slice none 0 0] 57 (0, 0))
    simpa using this
  have hM : (((w.alloc (.cells #[.int .i64 k, .slice a n c] 88)).alloc (.cells #[.int .i64 0, .slice none 0 0] 57)).alloc (.cells #[.int .i64 k, .slice none 0 0] 57)).heap[w.heap.size + 1]? = some (.cells #[.int .i64 0, .slice none 0 0] 57 (0, 0)) := by
    rw [Below.heap_alloc _ _ _ (by simp)]
    have := heap_alloc_new (w.alloc (.cells #[.int .i64 k, .slice a n c] 88)) (.cells #[.int .i64 0, .slice none 0 0] 57 (0, 0))
    simpa using this
  have hsz : w.heap.size + 3 = (((w.alloc (.cells #[.int .i64 k, .slice a n c] 88)).alloc (.cells #[.int .i64 0, .slice none 0 0] 57)).alloc (.cells #[.int .i64 k, .slice none 0 0] 57)).heap.size := by simp
  generalize (((w.alloc (.cells #[.int .i64 k, .slice a n c] 88)).alloc (.cells #[.int .i64 0, .slice none 0 0] 57)).alloc (.cells #[.int .i64 k, .slice none 0 0] 57)) = W0 at *
  refine (toIntS_any a n c y _ (H.out.same HW0.out) hn).mono ?_
  rintro e w1 ⟨q, m, d, rfl, ho, hb⟩
  have hL1 : w1.heap[w.heap.size + 1 + 1]? = some (.cells #[.int .i64 k, .slice none 0 0] 57 (0, 0)) := by rw [hb.block _ (by omega)]; exact hL
  have hM1 : w1.heap[w.heap.size + 1]? = some (.cells #[.int .i64 0, .slice none 0 0] 57 (0, 0)) := by rw [hb.block _ (by omega)]; exact hM
  have hL2 := heap_setCell_same w1 (w.heap.size + 1 + 1) 1 _ _ (.slice q m d) hL1
  have c0 := (block_cell hL1 0).trans rfl
  have c1 := (block_cell hL1 1).trans rfl
  have f1 := block_frozen hL1 1
  have d0 := (block_cell hL2 0).trans rfl
  have d1 := (block_cell hL2 1).trans rfl
  have g0 := block_frozen hM1 0
  have g1 := block_frozen hM1 1
  have m0 := (block_cell hM1 0).trans rfl
  have m1 := (block_cell hM1 1).trans rfl
  have HB1 := Lib.hid (HW0.out.trans (hb.mono HW0.out.size))
  have HO := Lib.hid (ho.lower HW0.out.size)
  have HSP := Lib.hid ho.span
  have hM2 : (w1.setCell ⟨w.heap.size + 1 + 1, 1, none⟩ (.slice q m d)).heap[w.heap.size + 1]? = some (.cells #[.int .i64 0, .slice none 0 0] 57 (0, 0)) := by rw [Below.heap_setCell _ _ _ _ (by dsimp only; omega)]; exact hM1
  have hM3 := heap_setCell_same _ (w.heap.size + 1) 0 _ _ (.int .i64 k) hM2
  have hM4 := heap_setCell_same _ (w.heap.size + 1) 1 _ _ (.slice q m d) hM3
  have z0 : ((w1.setCell ⟨w.heap.size + 1 + 1, 1, none⟩ (.slice q m d)).setCell ⟨w.heap.size + 1, 0, none⟩ (.int .i64 k)).cell? ⟨w.heap.size + 1, 0, none⟩ = some (.int .i64 k) := (block_cell hM3 0).trans rfl
  have z1 : (((w1.setCell ⟨w.heap.size + 1 + 1, 1, none⟩ (.slice q m d)).setCell ⟨w.heap.size + 1, 0, none⟩ (.int .i64 k)).setCell ⟨w.heap.size + 1, 1, none⟩ (.slice q m d)).cell? ⟨w.heap.size + 1, 1, none⟩ = some (.slice q m d) := (block_cell hM4 1).trans rfl
  clear ho hb hL hM hL1 hM1 hL2 hM2 hM3 hM4
  go_wp2_with fail
  (try simp only [Exit.inBlock, Exit.then])
  refine bodyPost_ret (by simp [results, Try.results75, go_sem, z0, z1]; try rfl) rfl ?_
  have hd : ∀ x, x < w.heap.size + 3 → ∀ ad, q = some ad → ad.block ≠ x := fun x hx ad e => by
    have := (HSP.out ad e).1
    omega
  refine ⟨_, _, _, rfl, ((HO.out.set (hd _ (by omega)) _ _).set (hd _ (by omega)) _ _).set (hd _ (by omega)) _ _, ((HB1.out.setCell (by dsimp only; omega) _).setCell (by dsimp only; omega) _).setCell (by dsimp only; omega) _⟩
set_option maxRecDepth 100000 in
theorem eqExt_yes (k : Int) (a b : Option Addr) (n m c d : Nat) (y : List Int) (w : World) (h : Nums .i64 w a n y) (h' : Nums .i64 w b m y) :
    Calls Try.prog 76 #[.agg #[.int .i64 k, .slice a n c], .agg #[.int .i64 k, .slice b m d]] w (Told (.bool true) w) := by
  have H := Lib.hid h
  have H' := Lib.hid h'
  clear h h'
  go_enter Try.func76, Try.ntmps76
  go_wp2_with fail
  have HB : Hid (Below w.heap.size w ((w.alloc (.cells #[.int .i64 k, .slice a n c] 57)).alloc (.cells #[.int .i64 k, .slice b m d] 57))) := Lib.hid (((Below.refl _ w).alloc (Nat.le_refl _) _).alloc (by simp) _)
  refine (eqIntS_yes a b n m c d y _ (H.out.same HB.out) (H'.out.same HB.out)).mono ?_
  rintro e w1 ⟨rfl, hb⟩
  have HB1 := Lib.hid (HB.out.trans (hb.mono HB.out.size))
  clear hb
  go_wp2_with fail
  go_ret
  exact ⟨rfl, HB1.out⟩
set_option maxRecDepth 100000 in
theorem eqExtS_yes (a b : Option Addr) (n m c d : Nat) (l : List Vl) (w : World) (h : Vals w a n l) (h' : Vals w b m l) :
    Calls Try.prog 37 #[.slice a n c, .slice b m d] w (Told (.bool true) w) := by
  obtain rfl : n = m := by rw [← h.len, ← h'.len]
  have hn := h.fits
  have H := Lib.hid h
  have H' := Lib.hid h'
  clear h h'
  go_enter Try.func37, Try.ntmps37
  go_wp2_with fail
  go_loopw [5] (fun i wr => ∃ j : Nat, j ≤ n ∧ i = .int .i64 j ∧ Below w.heap.size w wr) (fun i _ => n - (intOf i).toNat)
  case atStart => exact ⟨0, Nat.zero_le _, rfl, Below.refl _ _⟩
  case round =>
    obtain ⟨j, hj, rfl, hb⟩ := hrel
    have HB := Lib.hid hb
    clear hb
    by_cases hlt : j < n
    · obtain ⟨b1, o1, p1, m1, d1, k1, y1, rfl, hx, hc0, hc1, hN1, hr1⟩ := (H.out.same HB.out).at_ hlt
      obtain ⟨b2, o2, p2, m2, d2, k2, y2, rfl, hy, hd0, hd1, hN2, hr2⟩ := (H'.out.same HB.out).at_ hlt
      rw [hx] at hy
      cases hy
      have HN1 := Lib.hid hN1
      have HN2 := Lib.hid hN2
      clear hx hN1 hN2
      go_wp2_with fail
      go_still_tail 8, (by kernel_rfl)
      have H2 : Hid (Below wr.heap.size wr wr.drew) := Lib.hid (Below.refl _ _).drew
      change wpList _ _ _ _ _ wr.drew
      generalize wr.drew = w2 at H2 ⊢
      go_wp2_with fail
      refine (eqExt_yes k1 p1 p2 m1 m2 d1 d2 y1 w2 (HN1.out.same H2.out) (HN2.out.same H2.out)).mono ?_
      rintro e w3 ⟨rfl, hb3⟩
      have HB3 := Lib.hid ((HB.out.trans (H2.out.mono HB.out.size)).trans (hb3.mono (Nat.le_trans HB.out.size H2.out.size)))
      clear hb3
      go_wp2
      go_roundw
      case rel => exact ⟨j + 1, by omega, by go_num, HB3.out⟩
      case measure => simp [intOf]; omega
    · go_wp2
      go_ret
      exact ⟨rfl, HB.out⟩
set_option maxRecDepth 100000 in
theorem toExtS_any (a : Option Addr) (n c : Nat) (l : List Vl) (w : World) (h : Vals w a n l) (hn : n + itemsOf l ≤ 1048576000) :
    Calls Try.prog 35 #[.slice a n c] w (MadeV 57 3 w.heap.size l w) := by
  have H := Lib.hid h
  have hl := Lib.hid h.len
  clear h
  obtain ⟨i0, hi, hz0, hz1, hz2⟩ := info_parts infoExtS
  go_enter Try.func35, Try.ntmps35
  go_wp2_with (with_reducible refine wpList_make_full _ rfl (.tmp 6) (.tmp 6) 24 rfl w.heap.size 57 i0 (.agg #[.int .i64 0, .slice none 0 0]) 2 Try.underlying24 hi hz0 hz1 .i64 .i64 _ _ n rfl rfl (by omega) (by omega) ?c1 ?c2 ?c3 ?_)
  case c1 => rw [hz2]; omega
  case c2 => unfold maxLen; omega
  case c3 => omega
  intro w1 hown hgrow
  have hb1 : Below w.heap.size w w1 := (Below.refl _ w).grown hgrow (Nat.le_refl _) (fun _ e => by cases e)
  have HO : Hid (OwnV 57 3 w1 w.heap.size (some ⟨w.heap.size, 0, none⟩) n n (l.take 0 ++ List.replicate (n - 0) ⟨0, []⟩)) := by
    have hm : (madeCells #[.int .i64 0, .slice none 0 0] (n * 2)).toList = flatOf Vh.enc (List.replicate n ⟨0, none, 0, 0⟩) := made2 n
    rw [hm] at hown
    exact Lib.hid (by simpa using OwnV.zeros hown)
  have HB := Lib.hid hb1
  clear hown hgrow hb1 hi hz0 hz1 hz2
  go_wp2_with fail
  go_loopw [4] (fun i wr => ∃ j : Nat, j ≤ n ∧ i = .int .i64 j ∧ OwnV 57 3 wr w.heap.size (some ⟨w.heap.size, 0, none⟩) n n (l.take j ++ List.replicate (n - j) ⟨0, []⟩) ∧ Below w.heap.size w wr) (fun i _ => n - (intOf i).toNat)
  case atStart => exact ⟨0, Nat.zero_le _, rfl, HO.out, HB.out⟩
  case round =>
    obtain ⟨j, hj, rfl, hown, hb⟩ := hrel
    have HO2 := Lib.hid hown
    have HB2 := Lib.hid hb
    clear hown hb
    by_cases hlt : j < n
    · obtain ⟨b, o, p, m, d, k, y, rfl, hx, hc0, hc1, hN, hr⟩ := (H.out.same HB2.out).at_ hlt
      have HX := Lib.hid hx
      have HN := Lib.hid hN
      have hm1 := hN.len
      have hm2 := itemsOf_mem hx
      dsimp only at hm2
      clear hx hN
      go_wp2_with fail
      refine (toExt_any k p m d y wr HN.out (by omega)).mono ?_
      rintro e w2 ⟨q, m2, d2, rfl, ho, hb2⟩
      obtain ⟨hs, hI, hRV⟩ := HO2.out
      have hrow := (hI.same hb2).2
      have hf0 := hrow.frozenAt (j * 2)
      have hf1 := hrow.frozenAt (j * 2 + 1)
      obtain ⟨u0, hu0⟩ := row_cell hrow (k := j * 2) (by omega)
      obtain ⟨u1, hu1⟩ := row_cell hrow (k := j * 2 + 1) (by omega)
      have hput := OwnV.put HO2.out hb2 hlt k q m2 d2 y (ho.lower HB2.out.size) (fun ad e => (ho.span ad e).1)
      rw [put_step HX.out hl.out] at hput
      have HP := Lib.hid hput
      have HB3 := Lib.hid (HB2.out.trans (hb2.mono HB2.out.size))
      clear hrow hb2 hc0 hc1 hI hRV ho hput
      go_wp2_with fail
      go_roundw
      case rel =>
        exact ⟨j + 1, by omega, by go_num, HP.out.1, grown_to (b := some ⟨w.heap.size, 0, none⟩) (m := n) (d := n) HP.out.2 HB3.out (lo := w.heap.size) (hi := w.heap.size + 1) (fun ad e => by cases e; exact ⟨Nat.le_refl _, Nat.lt_succ_self _⟩) (Nat.le_refl _) HB3.out.size⟩
      case measure => simp [intOf]; omega
    · obtain rfl : j = n := by omega
      go_wp2
      go_ret
      have h1 := HO2.out
      rw [List.take_of_length_le (by rw [hl.out]; omega), Nat.sub_self, List.replicate_zero, List.append_nil] at h1
      exact ⟨_, _, _, rfl, h1, HB2.out⟩
end Go.Proofs.Ytnjjfagokbbelaa
namespace Go.Proofs.Ytnjjfagokbbelaa
open Go.ChangeShapes Go.WideShapes Go.ChangeAt Go.RowKit
set_option linter.unusedVariables false

section
variable {α : Type} {enc : α → List Value} {s : Nat}
theorem flatOf_one (x : α) : flatOf enc [x] = enc x := by simp [flatOf]
theorem items_flat (hs : ∀ x, (enc x).length = s) (h0 : 0 < s) {w : World} {b o m : Nat} {l : List α} (h : Items enc s w (some ⟨b, o, none⟩) m l) : ∀ p u, (flatOf enc l)[p]? = some u → w.cell? ((⟨b, o, none⟩ : Addr).add p) = some u := by
  intro p u hp
  have hlt : p < l.length * s := by
    rcases Nat.lt_or_ge p (l.length * s) with h1 | h1
    · exact h1
    · rw [List.getElem?_eq_none (by rw [flatOf_len hs]; exact h1)] at hp; cases hp
  have hj : p / s < l.length := Nat.div_lt_of_lt_mul (by rw [Nat.mul_comm]; exact hlt)
  have hi : p % s < s := Nat.mod_lt _ h0
  have e : p / s * s + p % s = p := by rw [Nat.mul_comm]; exact Nat.div_add_mod p s
  have h2 := flatOf_at hs l (p / s) _ (p % s) (List.getElem?_eq_getElem hj) hi
  rw [e, hp] at h2
  obtain ⟨b', o', e', hc⟩ := h.cell (p / s) _ (List.getElem?_eq_getElem hj)
  cases e'
  have h3 := hc (p % s) u h2.symm
  rw [Nat.add_assoc, e] at h3
  have e2 : (⟨b, o, none⟩ : Addr).add p = ⟨b, o + p, none⟩ := by
    unfold Addr.add
    by_cases hq : p = 0 <;> simp [hq]
  rw [e2]
  exact h3
theorem items_new (hs : ∀ x, (enc x).length = s) (w : World) (x : α) (t : TypeId) : Items enc s (w.alloc (.cells (enc x).toArray t)) (some ⟨w.heap.size, 0, none⟩) 1 [x] :=
  ⟨rfl, by omega, fun j y hj => by
    have hj0 : j = 0 := by
      rcases Nat.eq_zero_or_pos j with h | h
      · exact h
      · rw [List.getElem?_eq_none (by simp; omega)] at hj; cases hj
    subst hj0
    have : y = x := by simpa using hj.symm
    subst this
    refine ⟨_, _, rfl, fun i v hv => ?_⟩
    unfold World.cell?
    rw [show (⟨w.heap.size, 0 + 0 * s + i, none⟩ : Addr).block = w.heap.size from rfl, heap_alloc_new]
    simpa using hv⟩
variable {P : Program} (w : World)
theorem run_appI (hs : ∀ x, (enc x).length = s) (h0 : 0 < s) (h1 : ∀ x, ∀ u ∈ enc x, u.oneCell' = true) (t ty e : TypeId) (i : TypeInfo) (z : Value) (bytes : Nat) (ht : P.underlying t = some (.slice e)) (hi : P.info? e = some i) (hz : i.zero = some z) (hsize : i.size = s) (hby : i.bytes = bytes) (hzs : z.cells.size = s)
    {B n c m d b o : Nat} {a : Option Addr} {l l' : List α} (ho : OwnI enc s e w B a n c l) (hn : Items enc s w (some ⟨b, o, none⟩) m l') (hbytes : (n + m) * bytes ≤ 140737488355328) (h63 : n + m ≤ maxLen) (hB : B ≤ w.heap.size) :
    ∃ a' c' w', (Builtin.append_ #[t, t] ty #[.slice a n c, .slice (some ⟨b, o, none⟩) m d]).run P w = .ok (.slice a' (n + m) c') w' ∧ OwnI enc s e w' B a' (n + m) c' (l ++ l') ∧ w.grownBy w' (Value.ownBlock (.slice a n c)) := by
  obtain ⟨v', w', hr, h2, h3, _, _⟩ := run_append_own_at (P := P) w B t ty e i z s bytes ht hi hz hsize hby hzs h0 (.slice a n c) n (flatOf enc l) ho.2 ⟨b, o, none⟩ m d (flatOf enc l') (by rw [flatOf_len hs, hn.len]) (items_flat hs h0 hn) (fun u hu => by
      obtain ⟨x, _, hx⟩ := List.mem_flatMap.1 hu
      exact h1 x u hx) h63 hbytes hB
  rw [← flatOf_app] at h2
  have hl : (l ++ l').length = n + m := by rw [List.length_append, ho.1, hn.len]
  rcases h2.2 with ⟨rfl, hn'⟩ | ⟨g, cap, cur, rfl, hrest⟩
  · exact ⟨none, 0, w', by rw [hn']; exact hr, ⟨hl, by rw [hn'] at h2 ⊢; exact h2⟩, h3⟩
  · exact ⟨_, cap, w', hr, ⟨hl, h2⟩, h3⟩
theorem wpl_appI (hs : ∀ x, (enc x).length = s) (h0 : 0 < s) (h1 : ∀ x, ∀ u ∈ enc x, u.oneCell' = true) {ops : Array Oper} {rest : List Oper} {o : Oper} {act : Act} {Q : Exit → Act → World → Prop} (hgd : o.guard = none) (q x : Operand) (t : TypeId)
    (ho : o.op = .call { callee := .builtin .append, args := #[q, x], argTypes := #[t, t] })
    (e : TypeId) (i : TypeInfo) (z : Value) (bytes : Nat) (ht : P.underlying t = some (.slice e)) (hi : P.info? e = some i) (hz : i.zero = some z) (hsize : i.size = s) (hby : i.bytes = bytes) (hzs : z.cells.size = s)
    {B n c m d b off : Nat} {a : Option Addr} {l l' : List α} (hq : act.eval q = .slice a n c) (hown : OwnI enc s e w B a n c l) (hx : act.eval x = .slice (some ⟨b, off, none⟩) m d) (hnew : Items enc s w (some ⟨b, off, none⟩) m l')
    (hb1 : 0 < bytes) (hbytes : (n + m) * bytes ≤ 140737488355328) (hB : B ≤ w.heap.size)
    (h : ∀ a' c' w', OwnI enc s e w' B a' (n + m) c' (l ++ l') → Below B w w' → wpList P ops Q rest (act.put o.dst (.slice a' (n + m) c')) w') : wpList P ops Q (o :: rest) act w := by
  refine wpList_plain hgd fun K hK => ?_
  have h63 : n + m ≤ maxLen := by
    have := Nat.mul_le_mul_left (n + m) hb1
    unfold maxLen
    omega
  obtain ⟨a', c', w', hr, h2, h3⟩ := run_appI (P := P) (d := d) w hs h0 h1 t o.type e i z bytes ht hi hz hsize hby hzs hown hnew hbytes h63 hB
  unfold Oper.wp execOp
  simp only [ho, resolve, invoke, builtin, Sem.run_bind, Sem.run_pure, Result.andThen_ok, List.map_toArray, List.map_cons, List.map_nil, hq, hx, hr]
  exact hK _ _ (h a' c' w' h2 (grown_to h3 (Below.refl B w) hown.span (Nat.le_refl _) hB))
end
/-- Strings, as elements. -/
def strEnc (x : ByteArray) : List Value := [.string x]
theorem strEnc_len (x : ByteArray) : (strEnc x).length = 1 := rfl
theorem strEnc_one (x : ByteArray) : ∀ u ∈ strEnc x, u.oneCell' = true := by
  intro u hu
  have : u = .string x := by simpa [strEnc] using hu
  subst this
  rfl
end Go.Proofs.Ytnjjfagokbbelaa
