/- Being a format: by the program and by its model. Being a format, by the program. Being a format, by the model. Lists of values, each a number and a list of integers: what a walk is told of one that is read. No function of the program is spoken of. -/
import Derived.Test.YtcmjadfpifpknaaGreatG1
import Derived.Deep.RegionHeld3
namespace Go.Proofs.YtcmjadfpifpknaaGreat
open Go.ChangeShapes Go.WideShapes Go.ChangeAt Go.RowKit
set_option linter.unusedVariables false

theorem beq_dec (x y : Int) : (x == y) = decide (x = y) := by by_cases h : x = y <;> simp [h]
/-- The condition of a field behind the fields l looks back at a number that is there always, and at a value that it can have. -/
def condOk (l : List Fd) (x : Fd) : Bool :=
  if x.cond = -1 then decide (x.is = 0)
  else decide (0 ≤ x.cond ∧ x.cond ≤ (l.length : Int) - 1) && (match l[x.cond.toNat]? with
    | some g => decide (g.kind = 1) && decide (g.cond = -1) && decide (0 ≤ x.is ∧ x.is ≤ g.max)
    | none => false)
def fieldOk (l : List Fd) (x : Fd) : Bool := decide (1 ≤ x.max ∧ x.max ≤ mostOf x.kind) && condOk l x
/-- The first j fields are as they must be. -/
def okTo (l : List Fd) (j : Nat) : Prop := ∀ i x, i < j → l[i]? = some x → fieldOk (l.take i) x = true
def IsFmt (l : List Fd) : Prop := (1 ≤ l.length ∧ l.length ≤ 6) ∧ okTo l l.length
noncomputable def isFmt (l : List Fd) : Bool := @decide (IsFmt l) (Classical.propDecidable _)

end Go.Proofs.YtcmjadfpifpknaaGreat
namespace Go.Proofs.YtcmjadfpifpknaaGreat
open Go.ChangeShapes Go.WideShapes Go.ChangeAt Go.RowKit
set_option linter.unusedVariables false
set_option linter.unusedSimpArgs false

theorem cell_kept {w w' : World} {a : Addr} {v : Value} (h : w.cell? a = some v) (hb : Below w.heap.size w w') : w'.cell? a = some v := by
  rw [hb.cell (cell_in h)]; exact h
theorem typeNum (w : World) : Calls Tryz.prog 158 #[.int .i64 1] w fun e w' => e = .returned (.iface 177 (.agg #[])) ∧ w = w' := typeOf_any 1 w
theorem typeText (w : World) : Calls Tryz.prog 158 #[.int .i64 2] w fun e w' => e = .returned (.iface 178 (.agg #[])) ∧ w = w' := typeOf_any 2 w
theorem typeList (w : World) : Calls Tryz.prog 158 #[.int .i64 3] w fun e w' => e = .returned (.iface 180 (.agg #[])) ∧ w = w' := typeOf_any 3 w
theorem typeNo (k : Int) (h : k ≠ 1 ∧ k ≠ 2 ∧ k ≠ 3) (w : World) : Calls Tryz.prog 158 #[.int .i64 k] w fun e w' => e = .returned (.iface 188 (.agg #[])) ∧ w = w' := by
  have := typeOf_any k w
  rw [show typeVal k = .iface 188 (.agg #[]) by simp [typeVal, h.1, h.2.1, h.2.2]] at this
  exact this
theorem okTo_zero (l : List Fd) : okTo l 0 := fun i x h => absurd h (by omega)
theorem okTo_succ {l : List Fd} {j : Nat} {x : Fd} (h : okTo l j) (hx : l[j]? = some x) (hf : fieldOk (l.take j) x = true) : okTo l (j + 1) := by
  intro i y hi hy
  by_cases e : i = j
  · subst e
    rw [hx] at hy
    cases hy
    exact hf
  · exact h i y (by omega) hy
theorem isFmt_no {l : List Fd} {j : Nat} {x : Fd} (hx : l[j]? = some x) (hf : fieldOk (l.take j) x = false) : isFmt l = false := by
  have hj : j < l.length := by
    rcases Nat.lt_or_ge j l.length with h | h
    · exact h
    · rw [List.getElem?_eq_none h] at hx; cases hx
  unfold isFmt
  refine @decide_eq_false _ (Classical.propDecidable _) fun h => ?_
  have := h.2 j x hj hx
  rw [hf] at this
  cases this
theorem isFmt_yes {l : List Fd} (h : 1 ≤ l.length ∧ l.length ≤ 6) (ho : okTo l l.length) : isFmt l = true := @decide_eq_true _ (Classical.propDecidable _) ⟨h, ho⟩
theorem isFmt_len {l : List Fd} (h : ¬ (1 ≤ l.length ∧ l.length ≤ 6)) : isFmt l = false := @decide_eq_false _ (Classical.propDecidable _) fun h' => h h'.1
theorem isFmt_iff {l : List Fd} : isFmt l = true ↔ IsFmt l := by unfold isFmt; exact @decide_eq_true_iff _ (Classical.propDecidable _)

end Go.Proofs.YtcmjadfpifpknaaGreat
namespace Go.Proofs.YtcmjadfpifpknaaGreat
open Go.ChangeShapes Go.WideShapes Go.ChangeAt Go.RowKit
set_option linter.unusedVariables false

theorem l1R_q (n l h : Int) (w : World) :
    Calls Tryz.prog 99 #[.int .i64 n, .int .i64 l, .int .i64 h] w fun e w' => e = .returned (.bool (decide (l ≤ n ∧ n ≤ h))) ∧ w' = w := (l1R_any n l h w).mono fun e w' ⟨h1, h2⟩ => ⟨h1, h2.symm⟩

end Go.Proofs.YtcmjadfpifpknaaGreat
namespace Go.Proofs.YtcmjadfpifpknaaGreat
open Go.ChangeShapes Go.WideShapes Go.ChangeAt Go.RowKit
set_option linter.unusedVariables false

/-- Values of messages. -/
structure Vl where
  num : Int
  items : List Int
/-- From a on lie n values: the list l. -/
structure Vals (w : World) (a : Option Addr) (n : Nat) (l : List Vl) : Prop where
  len : l.length = n
  fits : (n : Int) ≤ 9223372036854775807
  cell : ∀ j x, l[j]? = some x → ∃ b o p m c, a = some ⟨b, o, none⟩ ∧ w.cell? ⟨b, o + j * 2, none⟩ = some (.int .i64 x.num) ∧ w.cell? ⟨b, o + j * 2 + 1, none⟩ = some (.slice p m c) ∧ Nums .i64 w p m x.items ∧ m ≤ c ∧ (c : Int) ≤ 9223372036854775807
theorem Vals.nothing {w : World} : Vals w none 0 [] := ⟨rfl, by omega, fun j x h => by simp at h⟩
theorem Vals.same {w w' : World} {a : Option Addr} {n : Nat} {l : List Vl} (h : Vals w a n l) (hb : Below w.heap.size w w') : Vals w' a n l :=
  ⟨h.len, h.fits, fun j x hj => by
    obtain ⟨b, o, p, m, c, e, h0, h1, h2, h3⟩ := h.cell j x hj
    exact ⟨b, o, p, m, c, e, by rw [hb.cell (cell_in h0)]; exact h0, by rw [hb.cell (cell_in h1)]; exact h1, h2.same hb, h3⟩⟩
theorem Vals.at_ {w : World} {a : Option Addr} {n : Nat} {l : List Vl} (h : Vals w a n l) {j : Nat} (hj : j < n) : ∃ b o p m c k y, a = some ⟨b, o, none⟩ ∧ l[j]? = some ⟨k, y⟩ ∧ w.cell? ⟨b, o + j * 2, none⟩ = some (.int .i64 k) ∧ w.cell? ⟨b, o + j * 2 + 1, none⟩ = some (.slice p m c) ∧ Nums .i64 w p m y ∧ m ≤ c ∧ (c : Int) ≤ 9223372036854775807 := by
  have hl : j < l.length := by rw [h.len]; exact hj
  obtain ⟨b, o, p, m, c, e, h1⟩ := h.cell j _ (List.getElem?_eq_getElem hl)
  exact ⟨b, o, p, m, c, _, _, e, List.getElem?_eq_getElem hl, h1⟩
/-- How many integers the values hold. -/
def itemsOf (l : List Vl) : Nat := (l.map fun x => x.items.length).sum
theorem itemsOf_at {l : List Vl} {j : Nat} {x : Vl} (h : l[j]? = some x) : itemsOf (l.take (j + 1)) = itemsOf (l.take j) + x.items.length := by
  unfold itemsOf
  rw [List.take_add_one, h]
  simp
theorem itemsOf_le (l : List Vl) (j : Nat) : itemsOf (l.take j) ≤ itemsOf l := by
  conv => rhs; rw [← List.take_append_drop j l]
  unfold itemsOf
  rw [List.map_append, List.sum_append]
  omega
theorem itemsOf_mem {l : List Vl} {j : Nat} {x : Vl} (h : l[j]? = some x) : x.items.length ≤ itemsOf l := by
  have h1 := itemsOf_at h
  have h2 := itemsOf_le l (j + 1)
  omega
theorem no_nums {k : IntKind} {w : World} {a : Option Addr} {l : List Int} (h : Nums k w a 0 l) : l = [] := List.eq_nil_of_length_eq_zero h.len

/-- A value as it lies in memory: its number, and where its integers lie. -/
structure Vh where
  num : Int
  p : Option Addr
  m : Nat
  c : Nat
def Vh.enc (x : Vh) : List Value := [.int .i64 x.num, .slice x.p x.m x.c]
theorem Vh.enc_len (x : Vh) : x.enc.length = 2 := rfl
theorem Vh.cells (x : Vh) : ∀ u ∈ x.enc, u.oneCell' = true := by
  intro u hu
  simp only [Vh.enc, List.mem_cons, List.not_mem_nil, or_false] at hu
  rcases hu with rfl | rfl <;> rfl
/-- The integers of the values lie in memory of the call's own, each value's apart from the others' and from the values themselves. -/
def RowsV (t : TypeId) (w : World) (B : Nat) (a : Option Addr) (hs : List Vh) (l : List Vl) : Prop :=
  hs.length = l.length ∧
  (∀ (j : Nat) (h : Vh) (x : Vl), hs[j]? = some h → l[j]? = some x → x.num = h.num ∧ Own .i64 t w B h.p h.m h.c x.items ∧ ∀ ad bd, h.p = some ad → a = some bd → ad.block ≠ bd.block) ∧
  ∀ (i j : Nat) (h k : Vh), i < j → hs[i]? = some h → hs[j]? = some k → ∀ ad bd, h.p = some ad → k.p = some bd → ad.block ≠ bd.block
/-- The list of values is the call's own, in blocks from B on. -/
def OwnV (tO tI : TypeId) (w : World) (B : Nat) (a : Option Addr) (n c : Nat) (l : List Vl) : Prop :=
  ∃ hs : List Vh, OwnI Vh.enc 2 tO w B a n c hs ∧ RowsV tI w B a hs l
section
variable {tO tI : TypeId} {w w' : World} {B n c : Nat} {a : Option Addr} {l : List Vl} {hs : List Vh}
theorem lt_of_some {α : Type} {l : List α} {j : Nat} {x : α} (h : l[j]? = some x) : j < l.length := by
  rcases Nat.lt_or_ge j l.length with q | q
  · exact q
  · rw [List.getElem?_eq_none q] at h; cases h
theorem RowsV.same (h : RowsV tI w B a hs l) (hb : Below w.heap.size w w') : RowsV tI w' B a hs l :=
  ⟨h.1, fun j g x h1 h2 => by
    obtain ⟨e, ho, hd⟩ := h.2.1 j g x h1 h2
    exact ⟨e, ho.same hb, hd⟩, h.2.2⟩
theorem OwnV.len (h : OwnV tO tI w B a n c l) : l.length = n := by
  obtain ⟨hs, h1, h2⟩ := h
  rw [← h2.1, h1.len]
theorem OwnV.room (h : OwnV tO tI w B a n c l) : n ≤ c ∧ (c : Int) ≤ 9223372036854775807 := by
  obtain ⟨hs, h1, h2⟩ := h
  exact h1.room
theorem OwnV.span (h : OwnV tO tI w B a n c l) : Span a B w.heap.size := by
  obtain ⟨hs, h1, h2⟩ := h
  exact h1.span
theorem OwnV.vals (h : OwnV tO tI w B a n c l) : Vals w a n l := by
  have hl := h.len
  have hr := h.room
  obtain ⟨hs, h1, h2⟩ := h
  refine ⟨hl, by omega, fun j x hx => ?_⟩
  have hj : j < hs.length := by rw [h2.1]; exact lt_of_some hx
  obtain ⟨b, o, g, e, hg, hc⟩ := (h1.items Vh.enc_len).at_ (j := j) (by rw [← h1.len]; exact hj)
  obtain ⟨en, ho, _⟩ := h2.2.1 j g x hg hx
  refine ⟨b, o, g.p, g.m, g.c, e, ?_, hc 1 _ rfl, ho.nums, ho.room⟩
  rw [en]
  simpa using hc 0 _ rfl
theorem OwnV.same (h : OwnV tO tI w B a n c l) (hb : Below w.heap.size w w') : OwnV tO tI w' B a n c l := by
  obtain ⟨hs, h1, h2⟩ := h
  exact ⟨hs, h1.same hb, h2.same hb⟩
theorem OwnV.lower (h : OwnV tO tI w B a n c l) {B' : Nat} (hB : B' ≤ B) : OwnV tO tI w B' a n c l := by
  obtain ⟨hs, h1, h2⟩ := h
  exact ⟨hs, h1.lower hB, h2.1, fun j g x q1 q2 => by
    obtain ⟨e, ho, hd⟩ := h2.2.1 j g x q1 q2
    exact ⟨e, ho.lower hB, hd⟩, h2.2.2⟩
theorem OwnV.nil : OwnV tO tI w B none 0 0 [] := ⟨[], OwnI.nil, rfl, fun j g x h => by simp at h, fun i j h k _ h' => by simp at h'⟩
/-- A write to the outer row alone leaves what the integers are. -/
theorem Own.beside {k : IntKind} {t : TypeId} {p b : Option Addr} {m d n c : Nat} {y : List Int} (h : Own k t w B p m d y) (hg : w.grownBy w' (Value.ownBlock (.slice b n c))) (hd : ∀ ad bd, p = some ad → b = some bd → ad.block ≠ bd.block) : Own k t w' B p m d y := by
  cases p with
  | none => exact ⟨h.1, h.2.kept hg (Or.inl rfl)⟩
  | some ad =>
    refine ⟨h.1, h.2.kept hg (Or.inr ?_)⟩
    cases b with
    | none => simp [Value.ownBlock]
    | some be =>
      have := hd ad be rfl rfl
      simpa [Value.ownBlock] using this
theorem RowsV.beside (h : RowsV tI w B a hs l) (hg : w.grownBy w' (Value.ownBlock (.slice a n c))) : ∀ (j : Nat) (g : Vh) (x : Vl), hs[j]? = some g → l[j]? = some x → x.num = g.num ∧ Own .i64 tI w' B g.p g.m g.c x.items := fun j g x h1 h2 => by
  obtain ⟨e, ho, hd⟩ := h.2.1 j g x h1 h2
  exact ⟨e, ho.beside hg hd⟩
/-- What a row owns, two cells later. -/
theorem stored2 {t : TypeId} {s g cap : Nat} {xs : List Value} (h : w.ownsRow B t s (.slice (some ⟨g, 0, none⟩) n cap) n xs) (j0 j1 : Nat) (v0 v1 : Value) :
    ((w.setCell ⟨g, j0, none⟩ v0).setCell ⟨g, j1, none⟩ v1).ownsRow B t s (.slice (some ⟨g, 0, none⟩) n cap) n ((xs.set j0 v0).set j1 v1) ∧
    w.grownBy ((w.setCell ⟨g, j0, none⟩ v0).setCell ⟨g, j1, none⟩ v1) (some g) := by
  have h0 := h.stored j0 v0
  have h1 := h0.1.stored j1 v1
  exact ⟨h1.1, h0.2.trans h1.2⟩
theorem flatVh_put : ∀ (hs : List Vh) (i : Nat) (g : Vh), i < hs.length → ((flatOf Vh.enc hs).set (i * 2) (.int .i64 g.num)).set (i * 2 + 1) (.slice g.p g.m g.c) = flatOf Vh.enc (hs.set i g)
  | [], i, g, h => by simp at h
  | y :: t, 0, g, h => by
    have e : flatOf Vh.enc (y :: t) = .int .i64 y.num :: .slice y.p y.m y.c :: flatOf Vh.enc t := by simp [flatOf, Vh.enc]
    rw [e]
    simp [flatOf, Vh.enc]
  | y :: t, i + 1, g, h => by
    have ih := flatVh_put t i g (by simpa using h)
    have e : flatOf Vh.enc (y :: t) = .int .i64 y.num :: .slice y.p y.m y.c :: flatOf Vh.enc t := by simp [flatOf, Vh.enc]
    rw [e, show (i + 1) * 2 = i * 2 + 1 + 1 by omega, List.set_cons_succ, List.set_cons_succ, List.set_cons_succ, List.set_cons_succ, ih, List.set_cons_succ]
    simp [flatOf, Vh.enc]
/-- The integers of a value lie in blocks that are there. -/
theorem RowsV.lt (h : RowsV tI w B a hs l) {j : Nat} {k : Vh} (hk : hs[j]? = some k) {ad : Addr} (e : k.p = some ad) : B ≤ ad.block ∧ ad.block < w.heap.size := by
  have hj : j < l.length := by rw [← h.1]; exact lt_of_some hk
  obtain ⟨_, ho, _⟩ := h.2.1 j k _ hk (List.getElem?_eq_getElem hj)
  exact ho.span ad e
/-- A value whose integers lie in memory that is newer than the list is put at place i. -/
theorem OwnV.put {u : World} {g : Nat} (h : OwnV tO tI u B (some ⟨g, 0, none⟩) n c l) (hb : Below u.heap.size u w) {i : Nat} (hi : i < n) (k : Int) (p : Option Addr) (m d : Nat) (y : List Int) (hv : Own .i64 tI w B p m d y)
    (hf : ∀ ad, p = some ad → u.heap.size ≤ ad.block) :
    OwnV tO tI ((w.setCell ⟨g, i * 2, none⟩ (.int .i64 k)).setCell ⟨g, i * 2 + 1, none⟩ (.slice p m d)) B (some ⟨g, 0, none⟩) n c (l.set i ⟨k, y⟩) ∧ w.grownBy ((w.setCell ⟨g, i * 2, none⟩ (.int .i64 k)).setCell ⟨g, i * 2 + 1, none⟩ (.slice p m d)) (some g) := by
  have hl := h.len
  have hgs := h.span _ rfl
  dsimp only at hgs
  obtain ⟨hs, h1, h2⟩ := h
  have hlt := fun (j : Nat) (k : Vh) (ad : Addr) (hk : hs[j]? = some k) (e : k.p = some ad) => (h2.lt hk e).2
  have h1' := h1.same hb
  have h2' := h2.same hb
  have h3 := stored2 h1'.2 (i * 2) (i * 2 + 1) (.int .i64 k) (.slice p m d)
  have hih : i < hs.length := by rw [h1.len]; exact hi
  rw [flatVh_put hs i ⟨k, p, m, d⟩ hih] at h3
  refine ⟨⟨hs.set i ⟨k, p, m, d⟩, ⟨by rw [List.length_set]; exact h1.len, h3.1⟩, by rw [List.length_set, List.length_set]; exact h2.1, fun j v x hk hx => ?_, fun j j' v v' hjj hk hk' ad bd ha hb' => ?_⟩, h3.2⟩
  · by_cases e : j = i
    · subst e
      rw [List.getElem?_set_self hih] at hk
      rw [List.getElem?_set_self (by rw [hl]; exact hi)] at hx
      cases hk
      cases hx
      refine ⟨rfl, Own.beside (b := some ⟨g, 0, none⟩) (n := n) (c := c) hv h3.2 fun ad bd ha hb' => ?_, fun ad bd ha hb' => ?_⟩
      · cases hb'
        have := hf ad ha
        dsimp only
        omega
      · cases hb'
        have := hf ad ha
        dsimp only
        omega
    · rw [List.getElem?_set_ne (by omega)] at hk hx
      obtain ⟨e1, ho, hd1⟩ := h2'.2.1 j v x hk hx
      exact ⟨e1, Own.beside (b := some ⟨g, 0, none⟩) (n := n) (c := c) ho h3.2 hd1, hd1⟩
  · by_cases e : j = i
    · subst e
      rw [List.getElem?_set_self hih] at hk
      rw [List.getElem?_set_ne (by omega)] at hk'
      cases hk
      have := hlt j' v' bd hk' hb'
      have := hf ad ha
      omega
    · rw [List.getElem?_set_ne (by omega)] at hk
      by_cases e' : j' = i
      · subst e'
        rw [List.getElem?_set_self hih] at hk'
        cases hk'
        have := hlt j v ad hk ha
        have := hf bd hb'
        omega
      · rw [List.getElem?_set_ne (by omega)] at hk'
        exact h2'.2.2 j j' v v' hjj hk hk' ad bd ha hb'
/-- Values that are all empty. -/
theorem OwnV.zeros (h : w.ownsRow B tO 2 (.slice a n c) n (flatOf Vh.enc (List.replicate n ⟨0, none, 0, 0⟩))) : OwnV tO tI w B a n c (List.replicate n ⟨0, []⟩) := by
  refine ⟨List.replicate n ⟨0, none, 0, 0⟩, ⟨by simp, h⟩, by simp, fun j v x hk hx => ?_, fun i j v v' _ hk _ ad bd ha _ => ?_⟩
  · have e1 := List.mem_replicate.1 (List.mem_of_getElem? hk)
    have e2 := List.mem_replicate.1 (List.mem_of_getElem? hx)
    rw [e1.2, e2.2]
    exact ⟨rfl, Own.nil, fun ad bd ha => by cases ha⟩
  · have e1 := List.mem_replicate.1 (List.mem_of_getElem? hk)
    rw [e1.2] at ha
    cases ha
theorem made2 (n : Nat) : (madeCells (Value.agg #[.int .i64 0, .slice none 0 0]).cells (n * 2)).toList = flatOf Vh.enc (List.replicate n ⟨0, none, 0, 0⟩) := by
  apply List.ext_getElem?
  intro i
  by_cases hi : i < n * 2
  · have hlt : i / 2 < n := Nat.div_lt_of_lt_mul (by omega)
    have h2 := flatOf_at Vh.enc_len (List.replicate n ⟨0, none, 0, 0⟩) (i / 2) ⟨0, none, 0, 0⟩ (i % 2) (by simp [hlt]) (Nat.mod_lt _ (by omega))
    rw [show i / 2 * 2 + i % 2 = i by omega] at h2
    rw [h2]
    have h3 : i % 2 < 2 := Nat.mod_lt _ (by omega)
    have h4 : (madeCells (Value.agg #[.int .i64 0, .slice none 0 0]).cells (n * 2)).toList[i]? = some ((#[.int .i64 0, .slice none 0 0] : Array Value)[i % 2]!) := by
      simp [madeCells, Value.cells, hi]
    rw [h4]
    match i % 2, h3 with
    | 0, _ => rfl
    | 1, _ => rfl
  · rw [List.getElem?_eq_none (by simp [madeCells]; omega), List.getElem?_eq_none (by rw [flatOf_len Vh.enc_len]; simp; omega)]
end
/-- One cell of another block is written. -/
theorem set_grown (w : World) (b o : Nat) (v : Value) : w.grownBy (w.setCell ⟨b, o, none⟩ v) (some b) :=
  ⟨rfl, rfl, rfl, ((Below.refl 0 w).setCell (Nat.zero_le _) v).size, fun i hi hne => Below.heap_setCell _ _ _ _ (fun e => hne (by rw [e]))⟩
theorem Own.set {k : IntKind} {t : TypeId} {w : World} {B n c b : Nat} {a : Option Addr} {l : List Int} (h : Own k t w B a n c l) (hd : ∀ ad, a = some ad → ad.block ≠ b) (o : Nat) (v : Value) : Own k t (w.setCell ⟨b, o, none⟩ v) B a n c l := by
  cases a with
  | none => exact ⟨h.1, h.2.kept (set_grown w b o v) (Or.inl rfl)⟩
  | some ad =>
    refine ⟨h.1, h.2.kept (set_grown w b o v) (Or.inr ?_)⟩
    have := hd ad rfl
    simpa [Value.ownBlock] using this
/-- What a function leaves that makes a list of values. -/
def MadeV (tO tI : TypeId) (B : Nat) (l : List Vl) (w : World) (e : Ending) (w' : World) : Prop :=
  ∃ a n c, e = .returned (.slice a n c) ∧ OwnV tO tI w' B a n c l ∧ Below B w w'
end Go.Proofs.YtcmjadfpifpknaaGreat
