/- Elements of any kind are appended to a slice of the call's own. No function of the program is spoken of. Lists of values of the call's own, all blocks below a bound: what a write elsewhere leaves; one value put, one appended. No function of the program is spoken of. A message read from its bytes, by the model. The helpers of the exact laws at lists of values: measured, copied, compared. A message read from the beginning of its bytes, and from all of them, by the model. -/
import Derived.Test.YtjkjnhkamieljaaG1
import Derived.Test.YtjkjnhkamieljaaG2
import Derived.Test.YtjkjnhkamieljaaG4
import Derived.Deep.QuietTactic
import Derived.BigQuiet
import Derived.RegionTactic
import Derived.StillTailTactics
import Derived.Handy
namespace Go.Proofs.Ytjkjnhkamieljaa
open Go.ChangeShapes Go.WideShapes Go.ChangeAt Go.RowKit
set_option linter.unusedVariables false

section
variable {α : Type} {enc : α → List Value} {s : Nat}
theorem flatOf_one (x : α) : flatOf enc [x] = enc x := by simp [flatOf]
theorem items_flat (hs : ∀ x, (enc x).length = s) (h0 : 0 < s) {w : World} {b o m : Nat} {l : List α} (h : Items enc s w (some ⟨b, o, none⟩) m l) : ∀ p u, (flatOf enc l)[p]? = some u → w.cell? ((⟨b, o, none⟩ : Addr).add p) = some u := by
  intro p u hp
  have hlt : p < l.length * s := by
    rcases Nat.lt_or_ge p (l.length * s) with h1 | h1
    · exact h1
    · rw [List.getElem?_eq_none (by rw [flatOf_len hs]; exact h1)] at hp; cases hp
  have hj : p / s < l.length := Nat.div_lt_of_lt_mul (by rw [Nat.mul_comm]; exact hlt)
  have hi : p % s < s := Nat.mod_lt _ h0
  have e : p / s * s + p % s = p := by rw [Nat.mul_comm]; exact Nat.div_add_mod p s
  have h2 := flatOf_at hs l (p / s) _ (p % s) (List.getElem?_eq_getElem hj) hi
  rw [e, hp] at h2
  obtain ⟨b', o', e', hc⟩ := h.cell (p / s) _ (List.getElem?_eq_getElem hj)
  cases e'
  have h3 := hc (p % s) u h2.symm
  rw [Nat.add_assoc, e] at h3
  have e2 : (⟨b, o, none⟩ : Addr).add p = ⟨b, o + p, none⟩ := by
    unfold Addr.add
    by_cases hq : p = 0 <;> simp [hq]
  rw [e2]
  exact h3
theorem items_new (hs : ∀ x, (enc x).length = s) (w : World) (x : α) (t : TypeId) : Items enc s (w.alloc (.cells (enc x).toArray t)) (some ⟨w.heap.size, 0, none⟩) 1 [x] :=
  ⟨rfl, by omega, fun j y hj => by
    have hj0 : j = 0 := by
      rcases Nat.eq_zero_or_pos j with h | h
      · exact h
      · rw [List.getElem?_eq_none (by simp; omega)] at hj; cases hj
    subst hj0
    have : y = x := by simpa using hj.symm
    subst this
    refine ⟨_, _, rfl, fun i v hv => ?_⟩
    unfold World.cell?
    rw [show (⟨w.heap.size, 0 + 0 * s + i, none⟩ : Addr).block = w.heap.size from rfl, heap_alloc_new]
    simpa using hv⟩
variable {P : Program} (w : World)
theorem run_appI (hs : ∀ x, (enc x).length = s) (h0 : 0 < s) (h1 : ∀ x, ∀ u ∈ enc x, u.oneCell' = true) (t ty e : TypeId) (i : TypeInfo) (z : Value) (bytes : Nat) (ht : P.underlying t = some (.slice e)) (hi : P.info? e = some i) (hz : i.zero = some z) (hsize : i.size = s) (hby : i.bytes = bytes) (hzs : z.cells.size = s)
    {B n c m d b o : Nat} {a : Option Addr} {l l' : List α} (ho : OwnI enc s e w B a n c l) (hn : Items enc s w (some ⟨b, o, none⟩) m l') (hbytes : (n + m) * bytes ≤ 140737488355328) (h63 : n + m ≤ maxLen) (hB : B ≤ w.heap.size) :
    ∃ a' c' w', (Builtin.append_ #[t, t] ty #[.slice a n c, .slice (some ⟨b, o, none⟩) m d]).run P w = .ok (.slice a' (n + m) c') w' ∧ OwnI enc s e w' B a' (n + m) c' (l ++ l') ∧ w.grownBy w' (Value.ownBlock (.slice a n c)) := by
  obtain ⟨v', w', hr, h2, h3, _, _⟩ := run_append_own_at (P := P) w B t ty e i z s bytes ht hi hz hsize hby hzs h0 (.slice a n c) n (flatOf enc l) ho.2 ⟨b, o, none⟩ m d (flatOf enc l') (by rw [flatOf_len hs, hn.len]) (items_flat hs h0 hn) (fun u hu => by
      obtain ⟨x, _, hx⟩ := List.mem_flatMap.1 hu
      exact h1 x u hx) h63 hbytes hB
  rw [← flatOf_app] at h2
  have hl : (l ++ l').length = n + m := by rw [List.length_append, ho.1, hn.len]
  rcases h2.2 with ⟨rfl, hn'⟩ | ⟨g, cap, cur, rfl, hrest⟩
  · exact ⟨none, 0, w', by rw [hn']; exact hr, ⟨hl, by rw [hn'] at h2 ⊢; exact h2⟩, h3⟩
  · exact ⟨_, cap, w', hr, ⟨hl, h2⟩, h3⟩
theorem wpl_appI (hs : ∀ x, (enc x).length = s) (h0 : 0 < s) (h1 : ∀ x, ∀ u ∈ enc x, u.oneCell' = true) {ops : Array Oper} {rest : List Oper} {o : Oper} {act : Act} {Q : Exit → Act → World → Prop} (hgd : o.guard = none) (q x : Operand) (t : TypeId)
    (ho : o.op = .call { callee := .builtin .append, args := #[q, x], argTypes := #[t, t] })
    (e : TypeId) (i : TypeInfo) (z : Value) (bytes : Nat) (ht : P.underlying t = some (.slice e)) (hi : P.info? e = some i) (hz : i.zero = some z) (hsize : i.size = s) (hby : i.bytes = bytes) (hzs : z.cells.size = s)
    {B n c m d b off : Nat} {a : Option Addr} {l l' : List α} (hq : act.eval q = .slice a n c) (hown : OwnI enc s e w B a n c l) (hx : act.eval x = .slice (some ⟨b, off, none⟩) m d) (hnew : Items enc s w (some ⟨b, off, none⟩) m l')
    (hb1 : 0 < bytes) (hbytes : (n + m) * bytes ≤ 140737488355328) (hB : B ≤ w.heap.size)
    (h : ∀ a' c' w', OwnI enc s e w' B a' (n + m) c' (l ++ l') → Below B w w' → wpList P ops Q rest (act.put o.dst (.slice a' (n + m) c')) w') : wpList P ops Q (o :: rest) act w := by
  refine wpList_plain hgd fun K hK => ?_
  have h63 : n + m ≤ maxLen := by
    have := Nat.mul_le_mul_left (n + m) hb1
    unfold maxLen
    omega
  obtain ⟨a', c', w', hr, h2, h3⟩ := run_appI (P := P) (d := d) w hs h0 h1 t o.type e i z bytes ht hi hz hsize hby hzs hown hnew hbytes h63 hB
  unfold Oper.wp execOp
  simp only [ho, resolve, invoke, builtin, Sem.run_bind, Sem.run_pure, Result.andThen_ok, List.map_toArray, List.map_cons, List.map_nil, hq, hx, hr]
  exact hK _ _ (h a' c' w' h2 (grown_to h3 (Below.refl B w) hown.span (Nat.le_refl _) hB))
end
/-- Strings, as elements. -/
def strEnc (x : ByteArray) : List Value := [.string x]
theorem strEnc_len (x : ByteArray) : (strEnc x).length = 1 := rfl
theorem strEnc_one (x : ByteArray) : ∀ u ∈ strEnc x, u.oneCell' = true := by
  intro u hu
  have : u = .string x := by simpa [strEnc] using hu
  subst this
  rfl
end Go.Proofs.Ytjkjnhkamieljaa
namespace Go.Proofs.Ytjkjnhkamieljaa
open Go.ChangeShapes Go.WideShapes Go.ChangeAt Go.RowKit
set_option linter.unusedVariables false

section
variable {tO tI : TypeId} {w w' : World} {B S n c : Nat} {a : Option Addr} {l : List Vl} {hs : List Vh}
/-- A list without values. -/
theorem OwnV.empty (hB : B ≤ w.heap.size) : OwnV tO tI (w.alloc (.cells #[] tO)) B (some ⟨w.heap.size, 0, Option.none⟩) 0 0 [] :=
  ⟨[], ⟨rfl, World.ownsRow_lit w #[] 0 hB (by unfold maxLen; omega) (by simp)⟩, rfl, fun j g x h => by simp at h, fun i j h k _ h' => by simp at h'⟩
/-- All blocks of a list of values lie below S. -/
def Lim (S : Nat) (a : Option Addr) (hs : List Vh) : Prop := (∀ ad, a = some ad → ad.block < S) ∧ ∀ (j : Nat) (h : Vh) (ad : Addr), hs[j]? = some h → h.p = some ad → ad.block < S
/-- The list of values is the call's own, in blocks from B on and below S. -/
def OwnVB (S : Nat) (tO tI : TypeId) (w : World) (B : Nat) (a : Option Addr) (n c : Nat) (l : List Vl) : Prop :=
  ∃ hs : List Vh, OwnI Vh.enc 2 tO w B a n c hs ∧ RowsV tI w B a hs l ∧ Lim S a hs
theorem OwnVB.ownV (h : OwnVB S tO tI w B a n c l) : OwnV tO tI w B a n c l := by
  obtain ⟨hs, h1, h2, _⟩ := h
  exact ⟨hs, h1, h2⟩
theorem OwnV.lim (h : OwnV tO tI w B a n c l) : OwnVB w.heap.size tO tI w B a n c l := by
  obtain ⟨hs, h1, h2⟩ := h
  exact ⟨hs, h1, h2, fun ad e => (h1.span ad e).2, fun j k ad hk e => (h2.lt hk e).2⟩
theorem Own.far {k : IntKind} {t : TypeId} {p : Option Addr} {m d : Nat} {y : List Int} {row : Option Nat} (h : Own k t w B p m d y) (hg : w.grownBy w' row) (hr : ∀ ad, p = some ad → row ≠ some ad.block) : Own k t w' B p m d y := by
  cases p with
  | none => exact ⟨h.1, h.2.kept hg (Or.inl rfl)⟩
  | some ad =>
    refine ⟨h.1, h.2.kept hg (Or.inr ?_)⟩
    have h1 := hr ad rfl
    cases row with
    | none => simp [Value.ownBlock]
    | some r =>
      simp only [ne_eq, Option.some.injEq] at h1
      simp only [Value.ownBlock, ne_eq, Option.some.injEq]
      omega
theorem OwnI.far {α : Type} {enc : α → List Value} {s : Nat} {t : TypeId} {m d : Nat} {p : Option Addr} {y : List α} {row : Option Nat} (h : OwnI enc s t w B p m d y) (hg : w.grownBy w' row) (hr : ∀ ad, p = some ad → row ≠ some ad.block) : OwnI enc s t w' B p m d y := by
  cases p with
  | none => exact ⟨h.1, h.2.kept hg (Or.inl rfl)⟩
  | some ad =>
    refine ⟨h.1, h.2.kept hg (Or.inr ?_)⟩
    have h1 := hr ad rfl
    cases row with
    | none => simp [Value.ownBlock]
    | some r =>
      simp only [ne_eq, Option.some.injEq] at h1
      simp only [Value.ownBlock, ne_eq, Option.some.injEq]
      omega
/-- A write to a block that is none of the list's. -/
theorem OwnVB.far {row : Option Nat} (h : OwnVB S tO tI w B a n c l) (hg : w.grownBy w' row) (hr : ∀ r, row = some r → r < B ∨ S ≤ r) : OwnVB S tO tI w' B a n c l := by
  obtain ⟨hs, h1, h2, h3⟩ := h
  have hne : ∀ x, B ≤ x → x < S → row ≠ some x := fun x hx hy e => by
    rcases hr x e with q | q <;> omega
  refine ⟨hs, h1.far hg fun ad e => hne _ (h1.span ad e).1 (h3.1 ad e), ⟨h2.1, fun j g x hk hx => ?_, h2.2.2⟩, h3⟩
  obtain ⟨e, ho, hd⟩ := h2.2.1 j g x hk hx
  exact ⟨e, ho.far hg fun ad e => hne _ (ho.span ad e).1 (h3.2 j g ad hk e), hd⟩
theorem OwnVB.same (h : OwnVB S tO tI w B a n c l) (hb : Below w.heap.size w w') : OwnVB S tO tI w' B a n c l := h.far (grown_below hb none) fun r e => by cases e
/-- One value of the list is another one. -/
theorem RowsV.set (h : RowsV tI w B a hs l) {i : Nat} (hi : i < hs.length) (v : Vh) (y : List Int) (hv : Own .i64 tI w' B v.p v.m v.c y)
    (hk : ∀ (j : Nat) (g : Vh) (x : Vl), j ≠ i → hs[j]? = some g → l[j]? = some x → Own .i64 tI w' B g.p g.m g.c x.items)
    (ho : ∀ ad bd, v.p = some ad → a = some bd → ad.block ≠ bd.block)
    (hd : ∀ (j : Nat) (g : Vh) (ad bd : Addr), j ≠ i → hs[j]? = some g → v.p = some ad → g.p = some bd → ad.block ≠ bd.block) : RowsV tI w' B a (hs.set i v) (l.set i ⟨v.num, y⟩) := by
  refine ⟨by rw [List.length_set, List.length_set]; exact h.1, fun j g x hg hx => ?_, fun j j' g g' hjj hg hg' ad bd ha hb => ?_⟩
  · by_cases e : j = i
    · subst e
      rw [List.getElem?_set_self hi] at hg
      rw [List.getElem?_set_self (by rw [← h.1]; exact hi)] at hx
      cases hg
      cases hx
      exact ⟨rfl, hv, ho⟩
    · rw [List.getElem?_set_ne (by omega)] at hg hx
      exact ⟨(h.2.1 j g x hg hx).1, hk j g x e hg hx, (h.2.1 j g x hg hx).2.2⟩
  · by_cases e : j = i
    · subst e
      rw [List.getElem?_set_self hi] at hg
      rw [List.getElem?_set_ne (by omega)] at hg'
      cases hg
      exact hd j' g' ad bd (by omega) hg' ha hb
    · rw [List.getElem?_set_ne (by omega)] at hg
      by_cases e' : j' = i
      · subst e'
        rw [List.getElem?_set_self hi] at hg'
        cases hg'
        exact fun q => hd j g bd ad e hg hb ha q.symm
      · rw [List.getElem?_set_ne (by omega)] at hg'
        exact h.2.2 j j' g g' hjj hg hg' ad bd ha hb
theorem RowsV.other (h : RowsV tI w B a hs l) {i j : Nat} {g k : Vh} (hij : j ≠ i) (hj : hs[j]? = some g) (hi : hs[i]? = some k) : ∀ ad bd, k.p = some ad → g.p = some bd → ad.block ≠ bd.block := fun ad bd ha hb q => by
  rcases Nat.lt_or_ge i j with e | e
  · exact h.2.2 i j k g e hi hj ad bd ha hb q
  · exact h.2.2 j i g k (by omega) hj hi bd ad hb ha q.symm
theorem flatVh_num : ∀ (hs : List Vh) (i : Nat) (g : Vh) (k : Int), hs[i]? = some g → (flatOf Vh.enc hs).set (i * 2) (.int .i64 k) = flatOf Vh.enc (hs.set i ⟨k, g.p, g.m, g.c⟩)
  | [], i, g, k, h => by simp at h
  | y :: t, 0, g, k, h => by
    have : y = g := by simpa using h
    subst this
    simp [flatOf, Vh.enc]
  | y :: t, i + 1, g, k, h => by
    have ih := flatVh_num t i g k (by simpa using h)
    have e : flatOf Vh.enc (y :: t) = .int .i64 y.num :: .slice y.p y.m y.c :: flatOf Vh.enc t := by simp [flatOf, Vh.enc]
    rw [e, show (i + 1) * 2 = i * 2 + 1 + 1 by omega, List.set_cons_succ, List.set_cons_succ, ih, List.set_cons_succ]
    simp [flatOf, Vh.enc]
theorem flatVh_hdr : ∀ (hs : List Vh) (i : Nat) (g : Vh) (p : Option Addr) (m d : Nat), hs[i]? = some g → (flatOf Vh.enc hs).set (i * 2 + 1) (.slice p m d) = flatOf Vh.enc (hs.set i ⟨g.num, p, m, d⟩)
  | [], i, g, p, m, d, h => by simp at h
  | y :: t, 0, g, p, m, d, h => by
    have : y = g := by simpa using h
    subst this
    simp [flatOf, Vh.enc]
  | y :: t, i + 1, g, p, m, d, h => by
    have ih := flatVh_hdr t i g p m d (by simpa using h)
    have e : flatOf Vh.enc (y :: t) = .int .i64 y.num :: .slice y.p y.m y.c :: flatOf Vh.enc t := by simp [flatOf, Vh.enc]
    rw [e, show (i + 1) * 2 + 1 = i * 2 + 1 + 1 + 1 by omega, List.set_cons_succ, List.set_cons_succ, ih, List.set_cons_succ]
    simp [flatOf, Vh.enc]
/-- The number of a value is stored. -/
theorem OwnV.putNum {g : Nat} (h : OwnV tO tI w B (some ⟨g, 0, none⟩) n c l) {i : Nat} {x : Vl} (hx : l[i]? = some x) (k : Int) :
    OwnV tO tI (w.setCell ⟨g, i * 2, none⟩ (.int .i64 k)) B (some ⟨g, 0, none⟩) n c (l.set i ⟨k, x.items⟩) ∧ w.grownBy (w.setCell ⟨g, i * 2, none⟩ (.int .i64 k)) (some g) := by
  obtain ⟨hs, h1, h2⟩ := h
  have hih : i < hs.length := by rw [h2.1]; exact lt_of_some hx
  have hg := List.getElem?_eq_getElem hih
  have h3 := h1.2.stored (i * 2) (.int .i64 k)
  rw [flatVh_num hs i _ k hg] at h3
  obtain ⟨e1, ho, hd⟩ := h2.2.1 i _ x hg hx
  refine ⟨⟨_, ⟨by rw [List.length_set]; exact h1.len, h3.1⟩, h2.set hih ⟨k, (hs[i]).p, (hs[i]).m, (hs[i]).c⟩ x.items (Own.beside (b := some ⟨g, 0, none⟩) (n := n) (c := c) ho h3.2 hd) (fun j v y hj hv hy => ?_) hd (fun j v ad bd hj hv ha hb => h2.other hj hv hg ad bd ha hb)⟩, h3.2⟩
  obtain ⟨_, ho2, hd2⟩ := h2.2.1 j v y hv hy
  exact Own.beside (b := some ⟨g, 0, none⟩) (n := n) (c := c) ho2 h3.2 hd2
/-- A value is stored that is empty. -/
theorem OwnV.putZero {g : Nat} (h : OwnV tO tI w B (some ⟨g, 0, none⟩) n c l) {i : Nat} (hi : i < n) :
    OwnV tO tI ((w.setCell ⟨g, i * 2, none⟩ (.int .i64 0)).setCell ⟨g, i * 2 + 1, none⟩ (.slice none 0 0)) B (some ⟨g, 0, none⟩) n c (l.set i ⟨0, []⟩) ∧ w.grownBy ((w.setCell ⟨g, i * 2, none⟩ (.int .i64 0)).setCell ⟨g, i * 2 + 1, none⟩ (.slice none 0 0)) (some g) :=
  OwnV.put h (Below.refl _ _) hi 0 none 0 0 [] Own.nil (fun ad e => by cases e)
/-- The integers of a value are others, in the same block or in a new one. -/
theorem OwnV.putItems {g : Nat} {u : World} (h : OwnV tO tI u B (some ⟨g, 0, none⟩) n c l) {i : Nat} {x : Vl} {v : Vh} (hx : l[i]? = some x) (hi : OwnI Vh.enc 2 tO u B (some ⟨g, 0, none⟩) n c hs) (hr : RowsV tI u B (some ⟨g, 0, none⟩) hs l) (hv : hs[i]? = some v)
    {p : Option Addr} {m d : Nat} {y : List Int} (hg : u.grownBy w (Value.ownBlock (.slice v.p v.m v.c))) (ho : Own .i64 tI w B p m d y) (hp : ∀ ad, p = some ad → (∃ bd, v.p = some bd ∧ bd.block = ad.block) ∨ u.heap.size ≤ ad.block) :
    OwnV tO tI (w.setCell ⟨g, i * 2 + 1, none⟩ (.slice p m d)) B (some ⟨g, 0, none⟩) n c (l.set i ⟨x.num, y⟩) ∧ w.grownBy (w.setCell ⟨g, i * 2 + 1, none⟩ (.slice p m d)) (some g) := by
  have hgs := hi.span _ rfl
  dsimp only at hgs
  have hih : i < hs.length := by rw [hr.1]; exact lt_of_some hx
  obtain ⟨e1, hov, hdv⟩ := hr.2.1 i v x hv hx
  have hrow : ∀ ad, Value.ownBlock (.slice v.p v.m v.c) = some ad → ∃ bd, v.p = some bd ∧ bd.block = ad := fun ad e => by
    cases hvp : v.p with
    | none => rw [hvp] at e; simp [Value.ownBlock] at e
    | some bd => rw [hvp] at e; simp only [Value.ownBlock, Option.some.injEq] at e; exact ⟨bd, rfl, e⟩
  have h1 : OwnI Vh.enc 2 tO w B (some ⟨g, 0, none⟩) n c hs := hi.far hg fun ad e e2 => by
    cases e
    obtain ⟨bd, hb, hbb⟩ := hrow _ e2
    exact hdv bd _ hb rfl hbb
  have h3 := h1.2.stored (i * 2 + 1) (.slice p m d)
  rw [flatVh_hdr hs i v p m d hv] at h3
  have hpg : ∀ ad, p = some ad → ad.block ≠ g := fun ad e q => by
    rcases hp ad e with ⟨bd, hb, hbb⟩ | hlt
    · exact hdv bd _ hb rfl (by rw [hbb]; exact q)
    · omega
  have e2 : (⟨x.num, y⟩ : Vl) = ⟨v.num, y⟩ := by rw [e1]
  rw [e2]
  refine ⟨⟨_, ⟨by rw [List.length_set]; exact h1.len, h3.1⟩, hr.set hih ⟨v.num, p, m, d⟩ y (Own.beside (b := some ⟨g, 0, none⟩) (n := n) (c := c) ho h3.2 fun ad bd ha hb => by cases hb; exact hpg ad ha) (fun j q z hj hq hz => ?_) (fun ad bd ha hb => by cases hb; exact hpg ad ha) (fun j q ad bd hj hq ha hb => ?_)⟩, h3.2⟩
  · obtain ⟨_, ho2, hd2⟩ := hr.2.1 j q z hq hz
    refine Own.beside (b := some ⟨g, 0, none⟩) (n := n) (c := c) (ho2.far hg fun ad e e3 => ?_) h3.2 hd2
    obtain ⟨bd, hb, hbb⟩ := hrow _ e3
    exact hr.other hj hq hv bd ad hb e hbb
  · rcases hp ad ha with ⟨cd, hb2, hbb⟩ | hlt
    · rw [← hbb]
      exact hr.other hj hq hv cd bd hb2 hb
    · have := (hr.lt hq hb).2
      omega
end
section
variable {P : Program} (w : World)
/-- A value is appended to a list of values of the call's own. -/
theorem run_appV (t ty e tI : TypeId) (i : TypeInfo) (z : Value) (bytes : Nat) (ht : P.underlying t = some (.slice e)) (hi : P.info? e = some i) (hz : i.zero = some z) (hsize : i.size = 2) (hby : i.bytes = bytes) (hzs : z.cells.size = 2)
    {S B n c m d b o dd : Nat} {a p : Option Addr} {l : List Vl} {k : Int} {y : List Int} (ho : OwnVB S e tI w B a n c l) (hn : Items Vh.enc 2 w (some ⟨b, o, none⟩) 1 [⟨k, p, m, d⟩]) (hv : Own .i64 tI w B p m d y) (hf : ∀ ad, p = some ad → S ≤ ad.block)
    (hbytes : (n + 1) * bytes ≤ 140737488355328) (h63 : n + 1 ≤ maxLen) (hB : B ≤ w.heap.size) :
    ∃ a' c' w', (Builtin.append_ #[t, t] ty #[.slice a n c, .slice (some ⟨b, o, none⟩) 1 dd]).run P w = .ok (.slice a' (n + 1) c') w' ∧ OwnV e tI w' B a' (n + 1) c' (l ++ [⟨k, y⟩]) ∧ Below B w w' ∧ w.grownBy w' (Value.ownBlock (.slice a n c)) := by
  obtain ⟨hs, h1, h2, h3⟩ := ho
  obtain ⟨v', w', hr, q1, q2, _, q3⟩ := run_append_own_at (P := P) w B t ty e i z 2 bytes ht hi hz hsize hby hzs (by omega) (.slice a n c) n (flatOf Vh.enc hs) h1.2 ⟨b, o, none⟩ 1 dd (flatOf Vh.enc [⟨k, p, m, d⟩]) (by rw [flatOf_len Vh.enc_len]; rfl) (items_flat Vh.enc_len (by omega) hn) (fun u hu => by
      obtain ⟨x, _, hx⟩ := List.mem_flatMap.1 hu
      exact Vh.cells x u hx) h63 hbytes hB
  rw [← flatOf_app] at q1
  have hl : (hs ++ [(⟨k, p, m, d⟩ : Vh)]).length = n + 1 := by rw [List.length_append, h1.1]; rfl
  have hbw : Below B w w' := grown_to q2 (Below.refl B w) h1.span (Nat.le_refl _) hB
  rcases q1.2 with ⟨rfl, hn'⟩ | ⟨g, cap, cur, rfl, hrest⟩
  · omega
  · have hgb : (∃ bd, a = some bd ∧ bd.block = g) ∨ g = w.heap.size := by
      rcases q3 with e | e
      · left
        cases ha : a with
        | none => rw [ha] at e; simp [Value.ownBlock] at e
        | some bd => rw [ha] at e; simp only [Value.ownBlock, Option.some.injEq] at e; exact ⟨bd, rfl, e.symm⟩
      · right
        simpa [Value.ownBlock] using e
    have hpa : ∀ ad bd, p = some ad → a = some bd → ad.block ≠ bd.block := fun ad bd ha hb => by
      have := hf ad ha
      have := h3.1 bd hb
      omega
    have hpg : ∀ ad, p = some ad → ad.block ≠ g := fun ad ha => by
      rcases hgb with ⟨bd, hb, e⟩ | e
      · rw [← e]; exact hpa ad bd ha hb
      · have := (hv.span ad ha).2
        omega
    refine ⟨_, cap, w', hr, ⟨_, ⟨hl, q1⟩, by rw [List.length_append, List.length_append, h2.1]; rfl, fun j v x hj hx => ?_, fun j j' v v' hjj hj hj' ad bd ha hb => ?_⟩, hbw, q2⟩
    · rcases Nat.lt_or_ge j hs.length with q | q
      · rw [List.getElem?_append_left q] at hj
        rw [List.getElem?_append_left (by rw [← h2.1]; exact q)] at hx
        obtain ⟨e1, ho1, hd1⟩ := h2.2.1 j v x hj hx
        refine ⟨e1, ho1.beside q2 hd1, fun ad bd ha hb => ?_⟩
        cases hb
        rcases hgb with ⟨cd, hc, e⟩ | e
        · have := hd1 ad cd ha hc
          rw [e] at this
          exact this
        · have := (h2.lt hj ha).2
          dsimp only
          omega
      · obtain rfl : j = hs.length := by have := lt_of_some hj; rw [List.length_append] at this; simp at this; omega
        rw [List.getElem?_append_right (Nat.le_refl _), Nat.sub_self] at hj
        rw [List.getElem?_append_right (by rw [h2.1]; exact Nat.le_refl _), h2.1, Nat.sub_self] at hx
        cases hj
        cases hx
        exact ⟨rfl, hv.beside q2 hpa, fun ad bd ha hb => by cases hb; exact hpg ad ha⟩
    · have hjl : j < hs.length := by have := lt_of_some hj'; rw [List.length_append] at this; simp at this; omega
      rw [List.getElem?_append_left hjl] at hj
      rcases Nat.lt_or_ge j' hs.length with q | q
      · rw [List.getElem?_append_left q] at hj'
        exact h2.2.2 j j' v v' hjj hj hj' ad bd ha hb
      · obtain rfl : j' = hs.length := by have := lt_of_some hj'; rw [List.length_append] at this; simp at this; omega
        rw [List.getElem?_append_right (Nat.le_refl _), Nat.sub_self] at hj'
        cases hj'
        have := h3.2 j v ad hj ha
        have := hf bd hb
        omega
theorem wpl_appV {ops : Array Oper} {rest : List Oper} {o : Oper} {act : Act} {Q : Exit → Act → World → Prop} (hgd : o.guard = none) (q x : Operand) (t : TypeId)
    (ho : o.op = .call { callee := .builtin .append, args := #[q, x], argTypes := #[t, t] })
    (e tI : TypeId) (i : TypeInfo) (z : Value) (bytes : Nat) (ht : P.underlying t = some (.slice e)) (hi : P.info? e = some i) (hz : i.zero = some z) (hsize : i.size = 2) (hby : i.bytes = bytes) (hzs : z.cells.size = 2)
    {S B n c m d b off dd : Nat} {a p : Option Addr} {l : List Vl} {k : Int} {y : List Int} (hq : act.eval q = .slice a n c) (hown : OwnVB S e tI w B a n c l) (hx : act.eval x = .slice (some ⟨b, off, none⟩) 1 dd) (hnew : Items Vh.enc 2 w (some ⟨b, off, none⟩) 1 [⟨k, p, m, d⟩]) (hv : Own .i64 tI w B p m d y) (hf : ∀ ad, p = some ad → S ≤ ad.block)
    (hb1 : 0 < bytes) (hbytes : (n + 1) * bytes ≤ 140737488355328) (hB : B ≤ w.heap.size)
    (h : ∀ a' c' w', OwnV e tI w' B a' (n + 1) c' (l ++ [⟨k, y⟩]) → Below B w w' → wpList P ops Q rest (act.put o.dst (.slice a' (n + 1) c')) w') : wpList P ops Q (o :: rest) act w := by
  refine wpList_plain hgd fun K hK => ?_
  have h63 : n + 1 ≤ maxLen := by
    have := Nat.mul_le_mul_left (n + 1) hb1
    unfold maxLen
    omega
  obtain ⟨a', c', w', hr, h2, h3, h4⟩ := run_appV (P := P) (dd := dd) w t o.type e tI i z bytes ht hi hz hsize hby hzs hown hnew hv hf hbytes h63 hB
  unfold Oper.wp execOp
  simp only [ho, resolve, invoke, builtin, Sem.run_bind, Sem.run_pure, Result.andThen_ok, List.map_toArray, List.map_cons, List.map_nil, hq, hx, hr]
  exact hK _ _ (h a' c' w' h2 h3)
theorem wpl_appV2 {ops : Array Oper} {rest : List Oper} {o : Oper} {act : Act} {Q : Exit → Act → World → Prop} (hgd : o.guard = none) (q x : Operand) (t : TypeId)
    (ho : o.op = .call { callee := .builtin .append, args := #[q, x], argTypes := #[t, t] })
    (e tI : TypeId) (i : TypeInfo) (z : Value) (bytes : Nat) (ht : P.underlying t = some (.slice e)) (hi : P.info? e = some i) (hz : i.zero = some z) (hsize : i.size = 2) (hby : i.bytes = bytes) (hzs : z.cells.size = 2)
    {S B n c m d b off dd : Nat} {a p : Option Addr} {l : List Vl} {k : Int} {y : List Int} (hq : act.eval q = .slice a n c) (hown : OwnVB S e tI w B a n c l) (hx : act.eval x = .slice (some ⟨b, off, none⟩) 1 dd) (hnew : Items Vh.enc 2 w (some ⟨b, off, none⟩) 1 [⟨k, p, m, d⟩]) (hv : Own .i64 tI w B p m d y) (hf : ∀ ad, p = some ad → S ≤ ad.block)
    (hb1 : 0 < bytes) (hbytes : (n + 1) * bytes ≤ 140737488355328) (hB : B ≤ w.heap.size)
    (h : ∀ a' c' w', OwnV e tI w' B a' (n + 1) c' (l ++ [⟨k, y⟩]) → w.grownBy w' (Value.ownBlock (.slice a n c)) → wpList P ops Q rest (act.put o.dst (.slice a' (n + 1) c')) w') : wpList P ops Q (o :: rest) act w := by
  refine wpList_plain hgd fun K hK => ?_
  have h63 : n + 1 ≤ maxLen := by
    have := Nat.mul_le_mul_left (n + 1) hb1
    unfold maxLen
    omega
  obtain ⟨a', c', w', hr, h2, h3, h4⟩ := run_appV (P := P) (dd := dd) w t o.type e tI i z bytes ht hi hz hsize hby hzs hown hnew hv hf hbytes h63 hB
  unfold Oper.wp execOp
  simp only [ho, resolve, invoke, builtin, Sem.run_bind, Sem.run_pure, Result.andThen_ok, List.map_toArray, List.map_cons, List.map_nil, hq, hx, hr]
  exact hK _ _ (h a' c' w' h2 h4)
/-- The same at a step of a region that draws its order. -/
theorem step_appV {ops : Array Oper} {o : Oper} {act : Act} {K : Act → World → Prop} {Q : Exit → Act → World → Prop} {E : Prop} (hgd : o.guard = none) (q x : Operand) (t : TypeId)
    (ho : o.op = .call { callee := .builtin .append, args := #[q, x], argTypes := #[t, t] })
    (e tI : TypeId) (i : TypeInfo) (z : Value) (bytes : Nat) (ht : P.underlying t = some (.slice e)) (hi : P.info? e = some i) (hz : i.zero = some z) (hsize : i.size = 2) (hby : i.bytes = bytes) (hzs : z.cells.size = 2)
    {S B n c m d b off dd : Nat} {a p : Option Addr} {l : List Vl} {k : Int} {y : List Int} (hq : act.eval q = .slice a n c) (hown : OwnVB S e tI w B a n c l) (hx : act.eval x = .slice (some ⟨b, off, none⟩) 1 dd) (hnew : Items Vh.enc 2 w (some ⟨b, off, none⟩) 1 [⟨k, p, m, d⟩]) (hv : Own .i64 tI w B p m d y) (hf : ∀ ad, p = some ad → S ≤ ad.block)
    (hb1 : 0 < bytes) (hbytes : (n + 1) * bytes ≤ 140737488355328) (hB : B ≤ w.heap.size)
    (h : ∀ a' c' w', OwnV e tI w' B a' (n + 1) c' (l ++ [⟨k, y⟩]) → Below B w w' → K (act.put o.dst (.slice a' (n + 1) c')) w') :
    if Region.wanted o (yielded ops act.tmps) = true then Oper.wp P o act w K Q else E := by
  have hw : Region.wanted o (yielded ops act.tmps) = true := by simp [Region.wanted, hgd]
  rw [if_pos hw]
  have h63 : n + 1 ≤ maxLen := by
    have := Nat.mul_le_mul_left (n + 1) hb1
    unfold maxLen
    omega
  obtain ⟨a', c', w', hr, h2, h3, h4⟩ := run_appV (P := P) (dd := dd) w t o.type e tI i z bytes ht hi hz hsize hby hzs hown hnew hv hf hbytes h63 hB
  unfold Oper.wp execOp
  simp only [ho, resolve, invoke, builtin, Sem.run_bind, Sem.run_pure, Result.andThen_ok, List.map_toArray, List.map_cons, List.map_nil, hq, hx, hr]
  exact h a' c' w' h2 h3
/-- Integers are appended to a slice of the call's own, at a step of a region that draws its order: where the outcome lies. -/
theorem step_app3 {ops : Array Oper} {o : Oper} {act : Act} {K : Act → World → Prop} {Q : Exit → Act → World → Prop} {E : Prop} (hgd : o.guard = none) (s x : Operand) (t : TypeId)
    (ho : o.op = .call { callee := .builtin .append, args := #[s, x], argTypes := #[t, t] })
    (k : IntKind) (e : TypeId) (i : TypeInfo) (z : Value) (bytes : Nat) (ht : P.underlying t = some (.slice e)) (hi : P.info? e = some i) (hz : i.zero = some z) (hsize : i.size = 1) (hby : i.bytes = bytes) (hzs : z.cells.size = 1)
    {B n c m d : Nat} {a : Option Addr} {ad : Addr} {l l' : List Int} (hs : act.eval s = .slice a n c) (hown : Own k e w B a n c l) (hx : act.eval x = .slice (some ad) m d) (hnew : Nums k w (some ad) m l') (hm : 0 < m)
    (hb1 : 0 < bytes) (hbytes : (n + m) * bytes ≤ 140737488355328) (hB : B ≤ w.heap.size)
    (h : ∀ a' c' w', Own k e w' B a' (n + m) c' (l ++ l') → w.grownBy w' (Value.ownBlock (.slice a n c)) → (∀ cd, a' = some cd → (∃ bd, a = some bd ∧ bd.block = cd.block) ∨ cd.block = w.heap.size) → K (act.put o.dst (.slice a' (n + m) c')) w') :
    if Region.wanted o (yielded ops act.tmps) = true then Oper.wp P o act w K Q else E := by
  have hw : Region.wanted o (yielded ops act.tmps) = true := by simp [Region.wanted, hgd]
  rw [if_pos hw]
  have h63 : n + m ≤ maxLen := by
    have := Nat.mul_le_mul_left (n + m) hb1
    unfold maxLen
    omega
  obtain ⟨v', w', hr, h2, h3, _, h5⟩ := run_append_own_at (P := P) w B t o.type e i z 1 bytes ht hi hz hsize hby hzs (by omega) (.slice a n c) n (l.map (Value.int k)) hown.2 ad m d (l'.map (Value.int k)) (by simp [hnew.len]) (fun j u hu => by
      have hj : j < m := by
        rcases Nat.lt_or_ge j m with h | h
        · exact h
        · rw [List.getElem?_eq_none (by simp [hnew.len]; exact h)] at hu; cases hu
      obtain ⟨ad', e', hxx⟩ := hnew.cell j hj
      cases e'
      have hl : j < l'.length := by rw [hnew.len]; exact hj
      rw [List.getElem?_map, List.getElem?_eq_getElem hl] at hu
      cases hu
      rw [hxx]
      simp [List.getD, List.getElem?_eq_getElem hl]) (ints_oneCell k l') h63 hbytes hB
  rw [← List.map_append] at h2
  rcases h2.2 with ⟨rfl, hn⟩ | ⟨g, cap, cur, rfl, hrest⟩
  · omega
  · have hgb : (∃ bd, a = some bd ∧ bd.block = g) ∨ g = w.heap.size := by
      rcases h5 with e | e
      · left
        cases ha : a with
        | none => rw [ha] at e; simp [Value.ownBlock] at e
        | some bd => rw [ha] at e; simp only [Value.ownBlock, Option.some.injEq] at e; exact ⟨bd, rfl, e.symm⟩
      · right
        simpa [Value.ownBlock] using e
    unfold Oper.wp execOp
    simp only [ho, resolve, invoke, builtin, Sem.run_bind, Sem.run_pure, Result.andThen_ok, List.map_toArray, List.map_cons, List.map_nil, hs, hx, hr]
    exact h _ cap w' ⟨by have := hown.len; have := hnew.len; simp; omega, h2⟩ h3 (fun cd e => by cases e; exact hgb)
end
end Go.Proofs.Ytjkjnhkamieljaa
namespace Go.Proofs.Ytjkjnhkamieljaa
open Go.ChangeShapes Go.WideShapes Go.ChangeAt Go.RowKit
set_option linter.unusedVariables false

/-- What a function leaves that reads a field's value at place k. -/
def RdTold (tI : TypeId) (x : Fd) (y : List Int) (k : Nat) (w : World) (e : Ending) (w' : World) : Prop :=
  match rdF x y k with
  | none => e = .returned (.tuple #[.agg #[.int .i64 0, .slice none 0 0], .int .i64 (-1)]) ∧ Below w.heap.size w w'
  | some (v, k') => ∃ p q g, e = .returned (.tuple #[.agg #[.int .i64 v.num, .slice p q g], .int .i64 k']) ∧ Own .i64 tI w' w.heap.size p q g v.items ∧ Below w.heap.size w w'
theorem rdF_end {x : Fd} {y : List Int} {k : Nat} (h : y.length ≤ k) : rdF x y k = none := by unfold rdF; rw [List.getElem?_eq_none h]
theorem rdF_num {x : Fd} {y : List Int} {k : Nat} {z : Int} (hz : y[k]? = some z) (hk : x.kind = 1) : rdF x y k = if fitsField x z [] = true then some (⟨z, []⟩, k + 1) else none := by unfold rdF; rw [hz]; dsimp only; rw [if_pos hk]
theorem rdF_out {x : Fd} {y : List Int} {k : Nat} {z : Int} (hz : y[k]? = some z) (hk : x.kind ≠ 1) (h : ¬ (0 ≤ z ∧ z ≤ (y.length : Int) - k - 1)) : rdF x y k = none := by unfold rdF; rw [hz]; dsimp only; rw [if_neg hk, if_neg h]
theorem rdF_row {x : Fd} {y : List Int} {k q : Nat} (hz : y[k]? = some (q : Int)) (hk : x.kind ≠ 1) (h : k + 1 + q ≤ y.length) : rdF x y k = if fitsField x 0 ((y.drop (k + 1)).take q) = true then some (⟨0, (y.drop (k + 1)).take q⟩, k + 1 + q) else none := by
  unfold rdF
  rw [hz]
  dsimp only
  rw [if_neg hk, if_pos ⟨by omega, by omega⟩, Int.toNat_natCast]

/-- Three blocks are made, one behind the other. -/
theorem three (w : World) (A B C : Array Value) (t1 t2 t3 : TypeId) :
    w.heap.size + 3 = (((w.alloc (.cells A t1)).alloc (.cells B t2)).alloc (.cells C t3)).heap.size ∧
    (((w.alloc (.cells A t1)).alloc (.cells B t2)).alloc (.cells C t3)).heap[w.heap.size]? = some (.cells A t1 (0, 0)) ∧
    (((w.alloc (.cells A t1)).alloc (.cells B t2)).alloc (.cells C t3)).heap[w.heap.size + 1]? = some (.cells B t2 (0, 0)) ∧
    (((w.alloc (.cells A t1)).alloc (.cells B t2)).alloc (.cells C t3)).heap[w.heap.size + 1 + 1]? = some (.cells C t3 (0, 0)) ∧
    Below w.heap.size w (((w.alloc (.cells A t1)).alloc (.cells B t2)).alloc (.cells C t3)) := by
  refine ⟨by simp, ?_, ?_, ?_, (((Below.refl _ w).alloc (Nat.le_refl _) _).alloc (by simp) _).alloc (by simp; omega) _⟩
  · rw [Below.heap_alloc _ _ _ (by simp; omega), Below.heap_alloc _ _ _ (by simp)]
    exact heap_alloc_new w _
  · rw [Below.heap_alloc _ _ _ (by simp)]
    have := heap_alloc_new (w.alloc (.cells A t1)) (.cells B t2)
    simpa using this
  · have := heap_alloc_new ((w.alloc (.cells A t1)).alloc (.cells B t2)) (.cells C t3)
    simpa using this
theorem two_cells {w : World} {g : Nat} {t : TypeId} {a b : Value} (h : w.heap[g]? = some (.cells #[a, b] t (0, 0))) : w.cell? ⟨g, 0, none⟩ = some a ∧ w.cell? ⟨g, 1, none⟩ = some b ∧ w.frozen? ⟨g, 0, none⟩ = false ∧ w.frozen? ⟨g, 1, none⟩ = false :=
  ⟨(block_cell h 0).trans rfl, (block_cell h 1).trans rfl, block_frozen h 0, block_frozen h 1⟩
theorem two_put {w : World} {g : Nat} {t : TypeId} {a b : Value} (h : w.heap[g]? = some (.cells #[a, b] t (0, 0))) (c d : Value) :
    (w.setCell ⟨g, 0, none⟩ c).cell? ⟨g, 0, none⟩ = some c ∧ ((w.setCell ⟨g, 0, none⟩ c).setCell ⟨g, 1, none⟩ d).cell? ⟨g, 1, none⟩ = some d ∧ ((w.setCell ⟨g, 0, none⟩ c).setCell ⟨g, 1, none⟩ d).heap[g]? = some (.cells #[c, d] t (0, 0)) := by
  have h1 := heap_setCell_same w g 0 _ _ c h
  have h2 := heap_setCell_same _ g 1 _ _ d h1
  exact ⟨(block_cell h1 0).trans rfl, (block_cell h2 1).trans rfl, h2⟩

set_option maxHeartbeats 4000000 in
set_option maxRecDepth 100000 in
theorem specRead_any (x : Fd) (a : Option Addr) (n c : Nat) (y : List Int) (k : Nat) (w : World) (h : Nums .i64 w a n y) (hc : n ≤ c ∧ (c : Int) ≤ 9223372036854775807) (hn : n ≤ 1000000000) (hk : k ≤ n) :
    Calls Try.prog 71 #[x.val, .slice a n c, .int .i64 k] w (RdTold 3 x y k w) := by
  obtain ⟨xk, xm, xt, xi⟩ := x
  have H := Lib.hid h
  have hyl := Lib.hid h.len
  obtain ⟨i0, hi, hz0, hz1, hz2⟩ := info_parts infoIntS
  have HI := Lib.hid (And.intro hi (And.intro hz0 (And.intro hz1 hz2)))
  clear h hi hz0 hz1 hz2
  unfold Fd.val RdTold
  by_cases h1 : k = n
  · rw [rdF_end (by rw [hyl.out]; omega)]
    subst h1
    dsimp only
    go_enter Try.func71, Try.ntmps71
    go_wp2_with fail
    go_returns
    exact ⟨rfl, ((Below.refl _ w).alloc (Nat.le_refl _) _).alloc (by simp) _⟩
  · have hlt : k < n := by omega
    obtain ⟨ad, z, rfl, hz, hcell⟩ := H.out.at_ hlt
    have ha2 : ∀ o1 o2, ((w.alloc o1).alloc o2).cell? (ad.add k) = some (.int .i64 z) := fun o1 o2 => by rw [(((Below.refl _ w).alloc (Nat.le_refl _) o1).alloc (by simp) o2).cell (cell_in hcell)]; exact hcell
    have ha3 : ∀ o1 o2 o3, (((w.alloc o1).alloc o2).alloc o3).cell? (ad.add k) = some (.int .i64 z) := fun o1 o2 o3 => by rw [((((Below.refl _ w).alloc (Nat.le_refl _) o1).alloc (by simp) o2).alloc (by simp; omega) o3).cell (cell_in hcell)]; exact hcell
    have hle : ¬ n ≤ k := by omega
    obtain ⟨hsz, hX, hM, hL, hB⟩ := three w #[.int .i64 xk, .int .i64 xm, .int .i64 xt, .int .i64 xi] #[.int .i64 0, .slice none 0 0] #[.int .i64 z, .slice none 0 0] 50 64 64
    by_cases h2 : xk = 1
    · subst h2
      rw [rdF_num hz rfl]
      have KV := Lib.hid (fun w0 => specFitsField_any ⟨1, xm, xt, xi⟩ z none 0 0 [] w0 Nums.none)
      unfold Fd.val at KV
      obtain ⟨f, hf⟩ : ∃ f, f = fitsField ⟨1, xm, xt, xi⟩ z [] := ⟨_, rfl⟩
      rw [← hf] at KV ⊢
      clear hz hf
      go_enter Try.func71, Try.ntmps71
      go_wp2_with fail
      generalize (((w.alloc (.cells #[.int .i64 1, .int .i64 xm, .int .i64 xt, .int .i64 xi] 50)).alloc (.cells #[.int .i64 0, .slice none 0 0] 64)).alloc (.cells #[.int .i64 z, .slice none 0 0] 64)) = W3 at *
      refine (KV.out _).mono ?_
      rintro e w1 ⟨rfl, hb1⟩
      have hM1 : w1.heap[w.heap.size + 1]? = some (.cells #[.int .i64 0, .slice none 0 0] 64 (0, 0)) := by rw [hb1.block _ (by omega)]; exact hM
      have hL1 : w1.heap[w.heap.size + 1 + 1]? = some (.cells #[.int .i64 z, .slice none 0 0] 64 (0, 0)) := by rw [hb1.block _ (by omega)]; exact hL
      have HB1 := Lib.hid (hB.trans (hb1.mono hB.size))
      obtain ⟨c0, c1, _, _⟩ := two_cells hL1
      obtain ⟨m0, m1, g0, g1⟩ := two_cells hM1
      clear hX hM hL hb1 hB
      cases f with
      | false =>
        obtain ⟨z0, z1, hZ⟩ := two_put hM1 (.int .i64 0) (.slice none 0 0)
        clear hM1 hL1 hZ
        go_wp2_with fail
        (try simp only [Exit.inBlock, Exit.then])
        refine bodyPost_ret (by simp [results, Try.results71, go_sem, z0, z1]; try rfl) rfl ?_
        exact ⟨rfl, (HB1.out.setCell (by dsimp only; omega) _).setCell (by dsimp only; omega) _⟩
      | true =>
        obtain ⟨z0, z1, hZ⟩ := two_put hM1 (.int .i64 z) (.slice none 0 0)
        clear hM1 hL1 hZ
        go_wp2_with fail
        (try simp only [Exit.inBlock, Exit.then])
        refine bodyPost_ret (by simp [results, Try.results71, go_sem, z0, z1]; try rfl) rfl ?_
        exact ⟨none, 0, 0, rfl, Own.nil, (HB1.out.setCell (by dsimp only; omega) _).setCell (by dsimp only; omega) _⟩
    · have b1 : (xk != 1) = true := by simpa using h2
      by_cases h3 : 0 ≤ z ∧ z ≤ (n : Int) - k - 1
      · obtain ⟨q, rfl⟩ : ∃ q : Nat, z = q := ⟨z.toNat, by omega⟩
        rw [rdF_row hz h2 (by rw [hyl.out]; omega)]
        have e1 : decide ((0 : Int) ≤ (q : Int) ∧ (q : Int) ≤ (n : Int) - k - 1) = true := decide_eq_true h3
        have hkq : k + 1 + q ≤ n := by omega
        obtain ⟨it, hit⟩ : ∃ it, it = (y.drop (k + 1)).take q := ⟨_, rfl⟩
        have HSUB := Lib.hid (fun (w0 : World) (hb0 : Below w.heap.size w w0) (b : Option Addr) (hb : 0 < q → ∀ ad', some ad = some ad' → b = some (ad'.add (k + 1))) => (H.out.same hb0).sub (k + 1) q (by omega) hb)
        rw [← hit] at HSUB ⊢
        have hitl : it.length = q := by rw [hit, List.length_take, List.length_drop, hyl.out]; omega
        have KV := Lib.hid (fun w0 p g (h0 : Nums .i64 w0 p q it) => specFitsField_any ⟨xk, xm, xt, xi⟩ 0 p q g it w0 h0)
        unfold Fd.val at KV
        obtain ⟨f, hf⟩ : ∃ f, f = fitsField ⟨xk, xm, xt, xi⟩ 0 it := ⟨_, rfl⟩
        rw [← hf] at KV ⊢
        have HIT := Lib.hid hitl
        clear hz h3 hf hit hitl h2
        by_cases hcc : k + 1 = c
        · obtain rfl : q = 0 := by omega
          obtain rfl : n = k + 1 := by omega
          subst hcc
          have e1 : decide ((0 : Int) ≤ 0 ∧ (0 : Int) ≤ (k : Int) + 1 - k - 1) = true := decide_eq_true ⟨by omega, by omega⟩
          have hkk : decide ((k : Int) + 1 ≤ (k : Int)) = false := decide_eq_false (by omega)
          go_enter Try.func71, Try.ntmps71
          go_wp2_with fail
          generalize (((w.alloc (.cells #[.int .i64 xk, .int .i64 xm, .int .i64 xt, .int .i64 xi] 50)).alloc (.cells #[.int .i64 0, .slice none 0 0] 64)).alloc (.cells #[.int .i64 0, .slice none 0 0] 64)) = W3 at *
          have h3c := cell_stay hcell hB
          have HXX := Lib.hid hX
          have HMM := Lib.hid hM
          have HLL := Lib.hid hL
          have HB3 := Lib.hid hB
          have HSZ := Lib.hid hsz
          have HO0 : Hid (Own .i64 3 (W3.alloc (.cells #[] 3)) W3.heap.size (some ⟨W3.heap.size, 0, none⟩) 0 0 []) := Lib.hid (Own.empty (Nat.le_refl _))
          clear hX hM hL hB ha2 ha3 hcell
          obtain rfl : it = [] := List.eq_nil_of_length_eq_zero HIT.out
          have ho4 := HO0.out
          have hb4 := Below.refl W3.heap.size (W3.alloc (.cells #[] 3))
          have hbw : Below W3.heap.size W3 (W3.alloc (.cells #[] 3)) := (alloc_same W3 (.cells #[] 3)).trans hb4
          have HB4 := Lib.hid (HB3.out.trans (hbw.mono HB3.out.size))
          have hs := HSZ.out
          have hs4 := hbw.size
          have hL4 : (W3.alloc (.cells #[] 3)).heap[w.heap.size + 1 + 1]? = some (.cells #[.int .i64 0, .slice none 0 0] 64 (0, 0)) := by rw [hbw.block _ (by omega)]; exact HLL.out
          have hM4 : (W3.alloc (.cells #[] 3)).heap[w.heap.size + 1]? = some (.cells #[.int .i64 0, .slice none 0 0] 64 (0, 0)) := by rw [hbw.block _ (by omega)]; exact HMM.out
          have hX4 : (W3.alloc (.cells #[] 3)).heap[w.heap.size]? = some (.cells #[.int .i64 xk, .int .i64 xm, .int .i64 xt, .int .i64 xi] 50 (0, 0)) := by rw [hbw.block _ (by omega)]; exact HXX.out
          obtain ⟨c0, c1, f0, f1⟩ := two_cells hL4
          obtain ⟨p0, p1, hP⟩ := two_put hL4 (.int .i64 0) (.slice (some (⟨W3.heap.size, 0, none⟩ : Addr)) 0 0)
          have hX5 : (((W3.alloc (.cells #[] 3)).setCell ⟨w.heap.size + 1 + 1, 0, none⟩ (.int .i64 0)).setCell ⟨w.heap.size + 1 + 1, 1, none⟩ (.slice (some (⟨W3.heap.size, 0, none⟩ : Addr)) 0 0)).heap[w.heap.size]? = some (.cells #[.int .i64 xk, .int .i64 xm, .int .i64 xt, .int .i64 xi] 50 (0, 0)) := by
            rw [Below.heap_setCell _ _ _ _ (by dsimp only; omega), Below.heap_setCell _ _ _ _ (by dsimp only; omega)]; exact hX4
          have hM5 : (((W3.alloc (.cells #[] 3)).setCell ⟨w.heap.size + 1 + 1, 0, none⟩ (.int .i64 0)).setCell ⟨w.heap.size + 1 + 1, 1, none⟩ (.slice (some (⟨W3.heap.size, 0, none⟩ : Addr)) 0 0)).heap[w.heap.size + 1]? = some (.cells #[.int .i64 0, .slice none 0 0] 64 (0, 0)) := by
            rw [Below.heap_setCell _ _ _ _ (by dsimp only; omega), Below.heap_setCell _ _ _ _ (by dsimp only; omega)]; exact hM4
          have x0 := (block_cell hX5 0).trans rfl
          have x1 := (block_cell hX5 1).trans rfl
          have x2 := (block_cell hX5 2).trans rfl
          have x3 := (block_cell hX5 3).trans rfl
          obtain ⟨l0, l1, _, _⟩ := two_cells hP
          have HP := Lib.hid hP
          have HM5 := Lib.hid hM5
          have hout : ∀ x, x < w.heap.size + 3 → ∀ ad, (some (⟨W3.heap.size, 0, none⟩ : Addr)) = some ad → ad.block ≠ x := fun x hx ad e => by
            have := (ho4.span ad e).1
            omega
          have HO5 : Hid (Own .i64 3 (((W3.alloc (.cells #[] 3)).setCell ⟨w.heap.size + 1 + 1, 0, none⟩ (.int .i64 0)).setCell ⟨w.heap.size + 1 + 1, 1, none⟩ (.slice (some (⟨W3.heap.size, 0, none⟩ : Addr)) 0 0)) W3.heap.size (some (⟨W3.heap.size, 0, none⟩ : Addr)) 0 0 []) := Lib.hid ((ho4.set (hout _ (by omega)) _ _).set (hout _ (by omega)) _ _)
          have HB5 : Hid (Below w.heap.size w (((W3.alloc (.cells #[] 3)).setCell ⟨w.heap.size + 1 + 1, 0, none⟩ (.int .i64 0)).setCell ⟨w.heap.size + 1 + 1, 1, none⟩ (.slice (some (⟨W3.heap.size, 0, none⟩ : Addr)) 0 0))) := Lib.hid ((HB4.out.setCell (by dsimp only; omega) _).setCell (by dsimp only; omega) _)
          have hs5 : (W3.alloc (.cells #[] 3)).heap.size ≤ (((W3.alloc (.cells #[] 3)).setCell ⟨w.heap.size + 1 + 1, 0, none⟩ (.int .i64 0)).setCell ⟨w.heap.size + 1 + 1, 1, none⟩ (.slice (some (⟨W3.heap.size, 0, none⟩ : Addr)) 0 0)).heap.size := by simp [World.setCell]
          have HOUT := Lib.hid hout
          clear ho4 hb4 hbw hL4 hM4 hX4 hP hX5 hM5 hout
          go_wp2_with (go_at_call 50; refine (l1R_any _ _ _ _).mono ?_; rw [e1]; rintro e w' ⟨rfl, rfl⟩)
          clear x0 x1 x2 x3 l0 l1 p0 p1 c0 c1 f0 f1
          generalize (((W3.alloc (.cells #[] 3)).setCell ⟨w.heap.size + 1 + 1, 0, none⟩ (.int .i64 0)).setCell ⟨w.heap.size + 1 + 1, 1, none⟩ (.slice (some (⟨W3.heap.size, 0, none⟩ : Addr)) 0 0)) = W5 at *
          refine (KV.out W5 (some (⟨W3.heap.size, 0, none⟩ : Addr)) 0 HO5.out.nums).mono ?_
          rintro e w6 ⟨rfl, hb6⟩
          have hM6 : w6.heap[w.heap.size + 1]? = some (.cells #[.int .i64 0, .slice none 0 0] 64 (0, 0)) := by rw [hb6.block _ (by omega)]; exact HM5.out
          have hL6 : w6.heap[w.heap.size + 1 + 1]? = some (.cells #[.int .i64 0, .slice (some (⟨W3.heap.size, 0, none⟩ : Addr)) 0 0] 64 (0, 0)) := by rw [hb6.block _ (by omega)]; exact HP.out
          have HB6 := Lib.hid (HB5.out.trans (hb6.mono HB5.out.size))
          have HO6 := Lib.hid (HO5.out.same hb6)
          obtain ⟨c0, c1, _, _⟩ := two_cells hL6
          obtain ⟨m0, m1, g0, g1⟩ := two_cells hM6
          clear hb6
          cases f with
          | false =>
            obtain ⟨z0, z1, hZ⟩ := two_put hM6 (.int .i64 0) (.slice none 0 0)
            clear hM6 hL6 hZ
            go_wp2_with fail
            (try simp only [Exit.inBlock, Exit.then])
            refine bodyPost_ret (by simp [results, Try.results71, go_sem, z0, z1]; try rfl) rfl ?_
            exact ⟨rfl, (HB6.out.setCell (by dsimp only; omega) _).setCell (by dsimp only; omega) _⟩
          | true =>
            obtain ⟨z0, z1, hZ⟩ := two_put hM6 (.int .i64 0) (.slice (some (⟨W3.heap.size, 0, none⟩ : Addr)) 0 0)
            clear hM6 hL6 hZ
            go_wp2_with fail
            (try simp only [Exit.inBlock, Exit.then])
            refine bodyPost_ret (by simp [results, Try.results71, go_sem, z0, z1]; try rfl) rfl ?_
            exact ⟨(some (⟨W3.heap.size, 0, none⟩ : Addr)), 0, 0, rfl, ((HO6.out.lower (by omega)).set (HOUT.out _ (by omega)) _ _).set (HOUT.out _ (by omega)) _ _, (HB6.out.setCell (by dsimp only; omega) _).setCell (by dsimp only; omega) _⟩
        · have hck : k + 1 < c := by omega
          go_enter Try.func71, Try.ntmps71
          go_wp2_with fail
          generalize (((w.alloc (.cells #[.int .i64 xk, .int .i64 xm, .int .i64 xt, .int .i64 xi] 50)).alloc (.cells #[.int .i64 0, .slice none 0 0] 64)).alloc (.cells #[.int .i64 q, .slice none 0 0] 64)) = W3 at *
          have h3c := cell_stay hcell hB
          have HXX := Lib.hid hX
          have HMM := Lib.hid hM
          have HLL := Lib.hid hL
          have HB3 := Lib.hid hB
          have HSZ := Lib.hid hsz
          have HN : Hid (Nums .i64 (W3.alloc (.cells #[] 3)) (some ⟨ad.block, ad.off + (k + 1), none⟩) (k + 1 + q - (k + 1)) it) := Lib.hid (by
            rw [show k + 1 + q - (k + 1) = q by omega]
            exact (HSUB.out W3 hB _ (fun _ ad' e => by cases e; simp [Addr.add])).same (alloc_same W3 (.cells #[] 3)))
          have HO0 : Hid (Own .i64 3 (W3.alloc (.cells #[] 3)) W3.heap.size (some ⟨W3.heap.size, 0, none⟩) 0 0 []) := Lib.hid (Own.empty (Nat.le_refl _))
          clear hX hM hL hB ha2 ha3 hcell
          go_wp2_with (first | (at_builtin; refine wpl_app _ rfl (.tmp 44) (.tmp 49) 32 rfl .i64 3 i0 (.int .i64 0) 8 Try.underlying32 HI.out.1 HI.out.2.1 HI.out.2.2.1 HI.out.2.2.2 rfl rfl HO0.out rfl HN.out (by omega) ?c1 ?c2 ?_) | (go_at_call 50; refine (l1R_any _ _ _ _).mono ?_; rw [e1]; rintro e w' ⟨rfl, rfl⟩))
          case c1 => omega
          case c2 => simp
          intro a4 c4 w4 ho4 hb4
          have hbw : Below W3.heap.size W3 w4 := (alloc_same W3 (.cells #[] 3)).trans hb4
          have HB4 := Lib.hid (HB3.out.trans (hbw.mono HB3.out.size))
          have hs := HSZ.out
          have hs4 := hbw.size
          have hL4 : w4.heap[w.heap.size + 1 + 1]? = some (.cells #[.int .i64 q, .slice none 0 0] 64 (0, 0)) := by rw [hbw.block _ (by omega)]; exact HLL.out
          have hM4 : w4.heap[w.heap.size + 1]? = some (.cells #[.int .i64 0, .slice none 0 0] 64 (0, 0)) := by rw [hbw.block _ (by omega)]; exact HMM.out
          have hX4 : w4.heap[w.heap.size]? = some (.cells #[.int .i64 xk, .int .i64 xm, .int .i64 xt, .int .i64 xi] 50 (0, 0)) := by rw [hbw.block _ (by omega)]; exact HXX.out
          obtain ⟨c0, c1, f0, f1⟩ := two_cells hL4
          obtain ⟨p0, p1, hP⟩ := two_put hL4 (.int .i64 0) (.slice a4 q c4)
          have hX5 : ((w4.setCell ⟨w.heap.size + 1 + 1, 0, none⟩ (.int .i64 0)).setCell ⟨w.heap.size + 1 + 1, 1, none⟩ (.slice a4 q c4)).heap[w.heap.size]? = some (.cells #[.int .i64 xk, .int .i64 xm, .int .i64 xt, .int .i64 xi] 50 (0, 0)) := by
            rw [Below.heap_setCell _ _ _ _ (by dsimp only; omega), Below.heap_setCell _ _ _ _ (by dsimp only; omega)]; exact hX4
          have hM5 : ((w4.setCell ⟨w.heap.size + 1 + 1, 0, none⟩ (.int .i64 0)).setCell ⟨w.heap.size + 1 + 1, 1, none⟩ (.slice a4 q c4)).heap[w.heap.size + 1]? = some (.cells #[.int .i64 0, .slice none 0 0] 64 (0, 0)) := by
            rw [Below.heap_setCell _ _ _ _ (by dsimp only; omega), Below.heap_setCell _ _ _ _ (by dsimp only; omega)]; exact hM4
          have x0 := (block_cell hX5 0).trans rfl
          have x1 := (block_cell hX5 1).trans rfl
          have x2 := (block_cell hX5 2).trans rfl
          have x3 := (block_cell hX5 3).trans rfl
          obtain ⟨l0, l1, _, _⟩ := two_cells hP
          have HP := Lib.hid hP
          have HM5 := Lib.hid hM5
          have hout : ∀ x, x < w.heap.size + 3 → ∀ ad, a4 = some ad → ad.block ≠ x := fun x hx ad e => by
            have := (ho4.span ad e).1
            omega
          have HO5 : Hid (Own .i64 3 ((w4.setCell ⟨w.heap.size + 1 + 1, 0, none⟩ (.int .i64 0)).setCell ⟨w.heap.size + 1 + 1, 1, none⟩ (.slice a4 q c4)) W3.heap.size a4 q c4 it) := Lib.hid ((ho4.set (hout _ (by omega)) _ _).set (hout _ (by omega)) _ _)
          have HB5 : Hid (Below w.heap.size w ((w4.setCell ⟨w.heap.size + 1 + 1, 0, none⟩ (.int .i64 0)).setCell ⟨w.heap.size + 1 + 1, 1, none⟩ (.slice a4 q c4))) := Lib.hid ((HB4.out.setCell (by dsimp only; omega) _).setCell (by dsimp only; omega) _)
          have hs5 : w4.heap.size ≤ ((w4.setCell ⟨w.heap.size + 1 + 1, 0, none⟩ (.int .i64 0)).setCell ⟨w.heap.size + 1 + 1, 1, none⟩ (.slice a4 q c4)).heap.size := by simp [World.setCell]
          have HOUT := Lib.hid hout
          clear ho4 hb4 hbw hL4 hM4 hX4 hP hX5 hM5 hout
          go_wp2_with fail
          clear x0 x1 x2 x3 l0 l1 p0 p1 c0 c1 f0 f1
          generalize ((w4.setCell ⟨w.heap.size + 1 + 1, 0, none⟩ (.int .i64 0)).setCell ⟨w.heap.size + 1 + 1, 1, none⟩ (.slice a4 q c4)) = W5 at *
          refine (KV.out W5 a4 c4 HO5.out.nums).mono ?_
          rintro e w6 ⟨rfl, hb6⟩
          have hM6 : w6.heap[w.heap.size + 1]? = some (.cells #[.int .i64 0, .slice none 0 0] 64 (0, 0)) := by rw [hb6.block _ (by omega)]; exact HM5.out
          have hL6 : w6.heap[w.heap.size + 1 + 1]? = some (.cells #[.int .i64 0, .slice a4 q c4] 64 (0, 0)) := by rw [hb6.block _ (by omega)]; exact HP.out
          have HB6 := Lib.hid (HB5.out.trans (hb6.mono HB5.out.size))
          have HO6 := Lib.hid (HO5.out.same hb6)
          obtain ⟨c0, c1, _, _⟩ := two_cells hL6
          obtain ⟨m0, m1, g0, g1⟩ := two_cells hM6
          clear hb6
          cases f with
          | false =>
            obtain ⟨z0, z1, hZ⟩ := two_put hM6 (.int .i64 0) (.slice none 0 0)
            clear hM6 hL6 hZ
            go_wp2_with fail
            (try simp only [Exit.inBlock, Exit.then])
            refine bodyPost_ret (by simp [results, Try.results71, go_sem, z0, z1]; try rfl) rfl ?_
            exact ⟨rfl, (HB6.out.setCell (by dsimp only; omega) _).setCell (by dsimp only; omega) _⟩
          | true =>
            obtain ⟨z0, z1, hZ⟩ := two_put hM6 (.int .i64 0) (.slice a4 q c4)
            clear hM6 hL6 hZ
            go_wp2_with fail
            (try simp only [Exit.inBlock, Exit.then])
            refine bodyPost_ret (by simp [results, Try.results71, go_sem, z0, z1]; try rfl) rfl ?_
            exact ⟨a4, q, c4, rfl, ((HO6.out.lower (by omega)).set (HOUT.out _ (by omega)) _ _).set (HOUT.out _ (by omega)) _ _, (HB6.out.setCell (by dsimp only; omega) _).setCell (by dsimp only; omega) _⟩
      · rw [rdF_out hz h2 (by rw [hyl.out]; exact h3)]
        have e1 : decide ((0 : Int) ≤ z ∧ z ≤ (n : Int) - k - 1) = false := decide_eq_false h3
        dsimp only
        obtain ⟨z0, z1, hZ⟩ := two_put hM (.int .i64 0) (.slice none 0 0)
        obtain ⟨m0, m1, g0, g1⟩ := two_cells hM
        have HB := Lib.hid hB
        clear hz h3 hsz hX hL hM hB hZ h2
        go_enter Try.func71, Try.ntmps71
        go_wp2_with (go_at_call 50; refine (l1R_any _ _ _ _).mono ?_; rw [e1]; rintro e w' ⟨rfl, rfl⟩)
        go_returns
        exact ⟨rfl, HB.out⟩
end Go.Proofs.Ytjkjnhkamieljaa
namespace Go.Proofs.Ytjkjnhkamieljaa
open Go.ChangeShapes Go.WideShapes Go.ChangeAt Go.RowKit
set_option linter.unusedVariables false

theorem infoValueS : (Try.prog.info? 64).map (fun i => (i.zero, i.size, i.bytes)) = some (some (.agg #[.int .i64 0, .slice none 0 0]), 2, 32) := by kernel_rfl

/-- What is left of a bound. -/
def leftOf (left : Int) (n : Nat) : Int := if (n : Int) ≤ left then left - n else -1
theorem put_step {l : List Vl} {j n : Nat} {x : Vl} (hj : l[j]? = some x) (hn : l.length = n) : (l.take j ++ List.replicate (n - j) (⟨0, []⟩ : Vl)).set j x = l.take (j + 1) ++ List.replicate (n - (j + 1)) (⟨0, []⟩ : Vl) := by
  have hlt : j < l.length := lt_of_some hj
  have hl : (l.take j).length = j := by rw [List.length_take]; omega
  rw [List.set_append_right _ _ (by omega), hl, Nat.sub_self, show n - j = (n - (j + 1)) + 1 by omega, List.replicate_succ, List.set_cons_zero, List.take_add_one, hj]
  simp
end Go.Proofs.Ytjkjnhkamieljaa
namespace Go.Proofs.Ytjkjnhkamieljaa
open Go.ChangeShapes Go.WideShapes Go.ChangeAt Go.RowKit
set_option linter.unusedVariables false

/-- The message that b begins with, and how many bytes it has; nothing and -1 if there is none. -/
noncomputable def rpV (l : List Fd) (y : List Int) : List Vl := (rdP l y).elim [] (fun s => s.1)
noncomputable def rpK (l : List Fd) (y : List Int) : Int := (rdP l y).elim (-1) (fun s => (s.2 : Int))
theorem rp_none {l : List Fd} {y : List Int} (h : rdP l y = none) : rpV l y = [] ∧ rpK l y = -1 := by unfold rpV rpK; rw [h]; exact ⟨rfl, rfl⟩
theorem rp_some {l : List Fd} {y : List Int} {v : List Vl} {k : Nat} (h : rdP l y = some (v, k)) : rpV l y = v ∧ rpK l y = k := by unfold rpV rpK; rw [h]; exact ⟨rfl, rfl⟩
/-- Whether all bytes are those of a message, and of which. -/
noncomputable def dmOk (l : List Fd) (y : List Int) : Bool := decide (rpK l y = (y.length : Int))
noncomputable def dmV (l : List Fd) (y : List Int) : List Vl := if dmOk l y = true then rpV l y else []
theorem rpV_few (l : List Fd) (y : List Int) : (rpV l y).length ≤ 6 ∧ itemsOf (rpV l y) ≤ 30 := by
  cases h : rdP l y with
  | none => rw [(rp_none h).1]; simp [itemsOf]
  | some s =>
    obtain ⟨v, k⟩ := s
    rw [(rp_some h).1]
    obtain ⟨h1, h2, h3⟩ := fitsFmt_parts (rdP_form h).1
    have h4 := isFmt_iff.1 h1
    have h5 := h4.1
    have hs : ∀ j, j ≤ v.length → itemsOf (v.take j) ≤ 5 * j := by
      intro j
      induction j with
      | zero => intro _; simp [itemsOf]
      | succ j ih =>
        intro hj
        obtain ⟨x, hx⟩ : ∃ x, l[j]? = some x := ⟨_, List.getElem?_eq_getElem (by omega)⟩
        obtain ⟨z, hz⟩ : ∃ z, v[j]? = some z := ⟨_, List.getElem?_eq_getElem (by omega)⟩
        have h6 := h3 j x z (by omega) hx hz
        have h7 : z.items.length ≤ 5 := by
          cases ht : isThere l v j with
          | false =>
            rw [fitsAt_not ht] at h6
            unfold emptyV at h6
            rw [Bool.and_eq_true, decide_eq_true_eq, decide_eq_true_eq] at h6
            rw [h6.2]
            simp
          | true =>
            rw [fitsAt_there ht] at h6
            have h8 := h4.2 j x (by omega) hx
            unfold fieldOk at h8
            rw [Bool.and_eq_true, decide_eq_true_eq] at h8
            have h9 := h8.1
            unfold mostOf at h9
            unfold fitsField fitIts at h6
            split at h6
            · rw [Bool.and_eq_true, decide_eq_true_eq, decide_eq_true_eq] at h6
              omega
            · rename_i hk
              rw [if_neg hk] at h9
              have h10 : x.max ≤ 5 := by
                revert h9
                repeat' split
                all_goals omega
              split at h6
              · rw [Bool.and_eq_true, Bool.and_eq_true, decide_eq_true_eq, decide_eq_true_eq] at h6
                omega
              · split at h6
                · rw [Bool.and_eq_true, Bool.and_eq_true, decide_eq_true_eq, decide_eq_true_eq] at h6
                  omega
                · cases h6
        rw [itemsOf_at hz]
        have := ih (by omega)
        omega
    have h6 := hs v.length (Nat.le_refl _)
    rw [List.take_of_length_le (Nat.le_refl _)] at h6
    omega
theorem dmV_few (l : List Fd) (y : List Int) : (dmV l y).length ≤ 6 ∧ itemsOf (dmV l y) ≤ 30 := by
  unfold dmV
  split
  · exact rpV_few l y
  · simp [itemsOf]
/-- What a function leaves that reads the beginning of some bytes, and one that reads all of them. -/
def RpTold (tO tI : TypeId) (l : List Fd) (y : List Int) (w : World) (e : Ending) (w' : World) : Prop :=
  ∃ a n c, e = .returned (.tuple #[.slice a n c, .int .i64 (rpK l y)]) ∧ OwnV tO tI w' w.heap.size a n c (rpV l y) ∧ Below w.heap.size w w'
def DmTold (tO tI : TypeId) (l : List Fd) (y : List Int) (w : World) (e : Ending) (w' : World) : Prop :=
  ∃ a n c, e = .returned (.tuple #[.slice a n c, .bool (dmOk l y)]) ∧ OwnV tO tI w' w.heap.size a n c (dmV l y) ∧ Below w.heap.size w w'

set_option maxHeartbeats 8000000 in
set_option maxRecDepth 100000 in
theorem specReadPrefix_any (a : Option Addr) (n c : Nat) (l : List Fd) (b : Option Addr) (m d : Nat) (y : List Int) (w : World) (h : Fds w a n l) (hv : Nums .i64 w b m y) (hc : m ≤ d ∧ (d : Int) ≤ 9223372036854775807) (hn : n ≤ 1000000000) (hm : m ≤ 1000000000) :
    Calls Try.prog 53 #[.slice a n c, .slice b m d] w (RpTold 64 3 l y w) := by
  have H := Lib.hid h
  have HV := Lib.hid hv
  have hl := Lib.hid h.len
  have hyl := Lib.hid hv.len
  have KF := Lib.hid (fun (w0 : World) (hb : Below w.heap.size w w0) => specIsFormat_any a n c l w0 (h.same hb) hn)
  have KR := Lib.hid (fun (x : Fd) (k : Nat) (hk : k ≤ m) (w0 : World) (hb : Below w.heap.size w w0) => specRead_any x b m d y k w0 (hv.same hb) hc hm hk)
  obtain ⟨i0, hi, hz0, hz1, hz2⟩ := info_parts infoValueS
  have HI := Lib.hid (And.intro hi (And.intro hz0 (And.intro hz1 hz2)))
  clear h hv hi hz0 hz1 hz2
  have HB0 : Hid (Below w.heap.size w (w.alloc (.cells #[] 64))) := Lib.hid (alloc_same _ _)
  have HO0 : Hid (OwnV 64 3 (w.alloc (.cells #[] 64)) w.heap.size (some ⟨w.heap.size, 0, none⟩) 0 0 []) := Lib.hid (OwnV.empty (Nat.le_refl _))
  unfold RpTold
  cases hf : isFmt l with
  | false =>
    have HE := Lib.hid (rp_none (y := y) (rdP_not hf))
    rw [hf] at KF
    clear hf
    go_enter Try.func53, Try.ntmps53
    go_wp2_with fail
    refine (KF.out _ HB0.out).mono ?_
    rintro e w1 ⟨rfl, hb1⟩
    have HB1 := Lib.hid (HB0.out.trans (hb1.mono HB0.out.size))
    have HO1 := Lib.hid (HO0.out.same hb1)
    clear hb1
    go_wp2_with fail
    go_ret2
    exact ⟨_, _, _, by rw [HE.out.2]; rfl, by rw [HE.out.1]; exact HO1.out, HB1.out⟩
  | true =>
    have hF := isFmt_iff.1 hf
    have hn6 : n ≤ 6 := by have := hF.1; have := hl.out; omega
    have HSTOP := Lib.hid (fun (j : Nat) (hj : j ≤ l.length) (hr : rdTo l y j = none) => rp_none (rdP_stop hr hj))
    have HALL := Lib.hid (fun (s : List Vl) (k : Nat) (hr : rdTo l y l.length = some (s, k)) => rp_some (rdP_all hf hr))
    have HFORM := Lib.hid (fun (j k : Nat) (v : List Vl) (hj : j ≤ l.length) (hr : rdTo l y j = some (v, k)) => rdTo_form hF.2 j v k hj hr)
    rw [hf] at KF
    clear hf hF
    go_enter Try.func53, Try.ntmps53
    go_wp2_with fail
    refine (KF.out _ HB0.out).mono ?_
    rintro e w1 ⟨rfl, hb1⟩
    have HB1 := Lib.hid (HB0.out.trans (hb1.mono HB0.out.size))
    have HO1 := Lib.hid (HO0.out.same hb1)
    clear hb1
    go_wp2_with fail
    go_loopw [6, 7, 8] (fun s q i wr => ∃ (a' : Option Addr) (c' j k : Nat) (v : List Vl), s = .slice a' j c' ∧ q = .int .i64 k ∧ i = .int .i64 j ∧ j ≤ n ∧ rdTo l y j = some (v, k) ∧ OwnV 64 3 wr w.heap.size a' j c' v ∧ Below w.heap.size w wr) (fun _ _ i _ => n - (intOf i).toNat)
    case atStart => exact ⟨_, _, 0, 0, [], rfl, rfl, rfl, Nat.zero_le _, rfl, HO1.out, HB1.out⟩
    case round =>
      obtain ⟨a', c', j, k, v, rfl, rfl, rfl, hj, hr, ho, hb⟩ := hrel
      have hkm : k ≤ m := by have := (HFORM.out j k v (by rw [hl.out]; exact hj) hr).2.1; rw [hyl.out] at this; exact this
      have HO := Lib.hid ho
      have HB := Lib.hid hb
      have HR := Lib.hid hr
      clear ho hb hr
      by_cases hlt : j < n
      · have hltI : (j : Int) < (n : Int) := by omega
        obtain ⟨bb, o, ⟨xk, xm, xt, xi⟩, rfl, hx, hc0, hc1, hc2, hc3⟩ := fds_at H.out hlt
        dsimp only at hc0 hc1 hc2 hc3
        have KTJ := specIsThere_any _ n c l a' j c' v j wr (H.out.same HB.out) HO.out.vals hn (by omega)
        cases ht : isThere l v j with
        | false =>
          have HS : Hid (rdTo l y (j + 1) = some (v ++ [⟨0, []⟩], k)) := Lib.hid (by rw [rdTo_step HR.out, rdStep_not hx ht])
          rw [ht] at KTJ
          clear ht hx hc0 hc1 hc2 hc3
          go_wp2_with fail
          refine KTJ.mono ?_
          rintro e w2 ⟨rfl, hb2⟩
          have HB2 := Lib.hid (HB.out.trans (hb2.mono HB.out.size))
          have HO2 := Lib.hid (HO.out.same hb2)
          have hs2 := HB2.out.size
          clear hb2 KTJ
          go_wp2_with (at_builtin; refine wpl_appV _ rfl (.tmp 27) (.tmp 29) 34 rfl 64 3 i0 (.agg #[.int .i64 0, .slice none 0 0]) 32 Try.underlying34 HI.out.1 HI.out.2.1 HI.out.2.2.1 HI.out.2.2.2 rfl rfl (HO2.out.lim.same (alloc_same _ _)) rfl (items_new Vh.enc_len w2 ⟨0, none, 0, 0⟩ 64) Own.nil (fun ad e => by cases e) (by omega) ?c1 ?c2 ?_)
          case c1 => omega
          case c2 => simp; omega
          intro a3 c3 w3 ho3 hb3
          have HO3 := Lib.hid ho3
          have HB3 := Lib.hid (HB2.out.trans (((alloc_same _ _).mono HB2.out.size).trans hb3))
          clear ho3 hb3
          go_wp2_with fail
          go_roundw
          case rel => exact ⟨_, _, j + 1, k, _, rfl, rfl, by go_num, by omega, HS.out, HO3.out, HB3.out⟩
          case measure => simp [intOf]; omega
        | true =>
          have HS := Lib.hid (rdTo_step HR.out)
          have HT := Lib.hid (rdStep_there (b := y) (k := k) hx ht)
          rw [ht] at KTJ
          have C0 := Lib.hid hc0
          have C1 := Lib.hid hc1
          have C2 := Lib.hid hc2
          have C3 := Lib.hid hc3
          clear ht hx hc0 hc1 hc2 hc3
          go_wp2_with fail
          refine KTJ.mono ?_
          rintro e w2 ⟨rfl, hb2⟩
          have HB2 := Lib.hid (HB.out.trans (hb2.mono HB.out.size))
          have HO2 := Lib.hid (HO.out.same hb2)
          have hs2 := HB2.out.size
          have c0 := cell_stay C0.out HB2.out
          have c1 := cell_stay C1.out HB2.out
          have c2 := cell_stay C2.out HB2.out
          have c3 := cell_stay C3.out HB2.out
          clear hb2 KTJ
          have KRJ := KR.out ⟨xk, xm, xt, xi⟩ k hkm w2 HB2.out
          unfold Fd.val RdTold at KRJ
          go_wp2_with fail
          cases hrd : rdF ⟨xk, xm, xt, xi⟩ y k with
          | none =>
            rw [hrd] at KRJ
            have HE := Lib.hid (HSTOP.out (j + 1) (by rw [hl.out]; omega) (by rw [HS.out, HT.out, hrd]; rfl))
            clear hrd c0 c1 c2 c3
            refine KRJ.mono ?_
            rintro e w3 ⟨rfl, hb3⟩
            have HB3 := Lib.hid (HB2.out.trans (hb3.mono HB2.out.size))
            have hs3 := HB3.out.size
            have HEM : Hid (OwnV 64 3 ((w3.alloc (.cells #[.int .i64 0, .slice none 0 0] 64)).alloc (.cells #[] 64)) w.heap.size (some ⟨w3.heap.size + 1, 0, none⟩) 0 0 []) := Lib.hid (by
              have := OwnV.empty (tO := 64) (tI := 3) (w := w3.alloc (.cells #[.int .i64 0, .slice none 0 0] 64)) (B := w.heap.size) (by simp; omega)
              rw [show (w3.alloc (.cells #[.int .i64 0, .slice none 0 0] 64)).heap.size = w3.heap.size + 1 by simp] at this
              exact this)
            clear hb3
            go_wp2_with fail
            go_ret2
            exact ⟨_, _, _, by rw [HE.out.2]; rfl, by rw [HE.out.1]; exact HEM.out, (HB3.out.alloc (by omega) _).alloc (by simp; omega) _⟩
          | some s =>
            obtain ⟨⟨zn, zi⟩, k2⟩ := s
            rw [hrd] at KRJ
            have HN : Hid (rdTo l y (j + 1) = some (v ++ [⟨zn, zi⟩], k2)) := Lib.hid (by rw [HS.out, HT.out, hrd]; rfl)
            clear hrd c0 c1 c2 c3
            refine KRJ.mono ?_
            rintro e w3 ⟨p, q, g, rfl, ho3, hb3⟩
            have HB3 := Lib.hid (HB2.out.trans (hb3.mono HB2.out.size))
            have HO3 := Lib.hid (HO2.out.lim.same hb3)
            have HF3 : Hid (∀ ad, p = some ad → w2.heap.size ≤ ad.block) := Lib.hid fun ad e => (ho3.span ad e).1
            have HP3 := Lib.hid (ho3.lower hs2)
            have hs3 := HB3.out.size
            dsimp only at HP3
            have HNN : Hid (Items Vh.enc 2 ((w3.alloc (.cells #[.int .i64 zn, .slice p q g] 64)).alloc (.cells #[.int .i64 zn, .slice p q g] 64)) (some ⟨w3.heap.size + 1, 0, none⟩) 1 [⟨zn, p, q, g⟩]) := Lib.hid (by
              have := items_new Vh.enc_len (w3.alloc (.cells #[.int .i64 zn, .slice p q g] 64)) ⟨zn, p, q, g⟩ 64
              rw [show (w3.alloc (.cells #[.int .i64 zn, .slice p q g] 64)).heap.size = w3.heap.size + 1 by simp] at this
              exact this)
            have HA := Lib.hid ((HO3.out.same (alloc_same w3 (.cells #[.int .i64 zn, .slice p q g] 64))).same (alloc_same _ (.cells #[.int .i64 zn, .slice p q g] 64)))
            have HPA := Lib.hid ((HP3.out.alloc (.cells #[.int .i64 zn, .slice p q g] 64)).alloc (.cells #[.int .i64 zn, .slice p q g] 64))
            clear ho3 hb3
            have hk2 : ¬ (k2 : Int) < 0 := by omega
            go_wp2_with (at_builtin; refine wpl_appV _ rfl (.tmp 44) (.tmp 46) 34 rfl 64 3 i0 (.agg #[.int .i64 0, .slice none 0 0]) 32 Try.underlying34 HI.out.1 HI.out.2.1 HI.out.2.2.1 HI.out.2.2.2 rfl rfl HA.out rfl HNN.out HPA.out HF3.out (by omega) ?c3 ?c4 ?_)
            case c3 => omega
            case c4 => simp; omega
            intro a5 c5 w5 ho5 hb5
            have HO5 := Lib.hid ho5
            have HB5 := Lib.hid (HB3.out.trans ((((alloc_same _ _).mono HB3.out.size).trans ((alloc_same _ _).mono (by simp; omega))).trans hb5))
            clear ho5 hb5
            go_wp2_with fail
            go_roundw
            case rel => exact ⟨_, _, j + 1, k2, _, rfl, rfl, by go_num, by omega, HN.out, HO5.out, HB5.out⟩
            case measure => simp [intOf]; omega
      · obtain rfl : j = n := by omega
        have HE := Lib.hid (HALL.out v k (by rw [hl.out]; exact HR.out))
        go_wp2_with fail
        go_ret2
        exact ⟨_, _, _, by rw [HE.out.2]; rfl, by rw [HE.out.1]; exact HO.out, HB.out⟩
set_option maxHeartbeats 2000000 in
set_option maxRecDepth 100000 in
theorem specDecodeMessage_any (a : Option Addr) (n c : Nat) (l : List Fd) (b : Option Addr) (m d : Nat) (y : List Int) (w : World) (h : Fds w a n l) (hv : Nums .i64 w b m y) (hc : m ≤ d ∧ (d : Int) ≤ 9223372036854775807) (hn : n ≤ 1000000000) (hm : m ≤ 1000000000) :
    Calls Try.prog 51 #[.slice a n c, .slice b m d] w (DmTold 64 3 l y w) := by
  have K := Lib.hid (specReadPrefix_any a n c l b m d y w h hv hc hn hm)
  have hyl := hv.len
  clear h hv
  unfold RpTold at K
  unfold DmTold
  by_cases hk : rpK l y = (m : Int)
  · have hok : dmOk l y = true := by unfold dmOk; rw [hyl]; exact decide_eq_true hk
    have HE : Hid (dmOk l y = true ∧ dmV l y = rpV l y) := Lib.hid ⟨hok, by unfold dmV; rw [if_pos hok]⟩
    rw [hk] at K
    clear hk hok
    go_enter Try.func51, Try.ntmps51
    go_wp2_with fail
    refine K.out.mono ?_
    rintro e w1 ⟨a1, n1, c1, rfl, ho, hb⟩
    have HB := Lib.hid hb
    have HO := Lib.hid ho
    clear ho hb
    go_wp2_with fail
    go_ret2
    exact ⟨_, _, _, by rw [HE.out.1]; rfl, by rw [HE.out.2]; exact HO.out, HB.out⟩
  · have hok : dmOk l y = false := by unfold dmOk; rw [hyl]; exact decide_eq_false hk
    have HE : Hid (dmOk l y = false ∧ dmV l y = []) := Lib.hid ⟨hok, by unfold dmV; rw [if_neg (by rw [hok]; decide)]⟩
    obtain ⟨t, ht⟩ : ∃ t, t = rpK l y := ⟨_, rfl⟩
    rw [← ht] at K hk
    have b1 : (t != (m : Int)) = true := by simpa using hk
    clear hok ht hk
    go_enter Try.func51, Try.ntmps51
    go_wp2_with fail
    refine K.out.mono ?_
    rintro e w1 ⟨a1, n1, c1, rfl, ho, hb⟩
    have HB := Lib.hid hb
    have hs := hb.size
    clear ho hb
    go_wp2_with fail
    go_ret2
    exact ⟨_, _, _, by rw [HE.out.1]; rfl, by rw [HE.out.2]; exact OwnV.empty hs, HB.out.alloc hs _⟩
end Go.Proofs.Ytjkjnhkamieljaa
