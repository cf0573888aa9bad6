/- Elements of any kind are appended to a slice of the call's own. No function of the program is spoken of. Lists of values of the call's own, all blocks below a bound: what a write elsewhere leaves; one value put, one appended. No function of the program is spoken of. A message read from its bytes, by the model. Extensions: when they are valid, how they are written, and what is read of a list of integers. -/
import Derived.Test.YtcmjadfpifpknaaGreatG1
import Derived.Test.YtcmjadfpifpknaaGreatG2
import Derived.Test.YtcmjadfpifpknaaGreatG5
namespace Go.Proofs.YtcmjadfpifpknaaGreat
open Go.ChangeShapes Go.WideShapes Go.ChangeAt Go.RowKit
set_option linter.unusedVariables false

section
variable {α : Type} {enc : α → List Value} {s : Nat}
theorem flatOf_one (x : α) : flatOf enc [x] = enc x := by simp [flatOf]
theorem items_flat (hs : ∀ x, (enc x).length = s) (h0 : 0 < s) {w : World} {b o m : Nat} {l : List α} (h : Items enc s w (some ⟨b, o, none⟩) m l) : ∀ p u, (flatOf enc l)[p]? = some u → w.cell? ((⟨b, o, none⟩ : Addr).add p) = some u := by
  intro p u hp
  have hlt : p < l.length * s := by
    rcases Nat.lt_or_ge p (l.length * s) with h1 | h1
    · exact h1
    · rw [List.getElem?_eq_none (by rw [flatOf_len hs]; exact h1)] at hp; cases hp
  have hj : p / s < l.length := Nat.div_lt_of_lt_mul (by rw [Nat.mul_comm]; exact hlt)
  have hi : p % s < s := Nat.mod_lt _ h0
  have e : p / s * s + p % s = p := by rw [Nat.mul_comm]; exact Nat.div_add_mod p s
  have h2 := flatOf_at hs l (p / s) _ (p % s) (List.getElem?_eq_getElem hj) hi
  rw [e, hp] at h2
  obtain ⟨b', o', e', hc⟩ := h.cell (p / s) _ (List.getElem?_eq_getElem hj)
  cases e'
  have h3 := hc (p % s) u h2.symm
  rw [Nat.add_assoc, e] at h3
  have e2 : (⟨b, o, none⟩ : Addr).add p = ⟨b, o + p, none⟩ := by
    unfold Addr.add
    by_cases hq : p = 0 <;> simp [hq]
  rw [e2]
  exact h3
theorem items_new (hs : ∀ x, (enc x).length = s) (w : World) (x : α) (t : TypeId) : Items enc s (w.alloc (.cells (enc x).toArray t)) (some ⟨w.heap.size, 0, none⟩) 1 [x] :=
  ⟨rfl, by omega, fun j y hj => by
    have hj0 : j = 0 := by
      rcases Nat.eq_zero_or_pos j with h | h
      · exact h
      · rw [List.getElem?_eq_none (by simp; omega)] at hj; cases hj
    subst hj0
    have : y = x := by simpa using hj.symm
    subst this
    refine ⟨_, _, rfl, fun i v hv => ?_⟩
    unfold World.cell?
    rw [show (⟨w.heap.size, 0 + 0 * s + i, none⟩ : Addr).block = w.heap.size from rfl, heap_alloc_new]
    simpa using hv⟩
variable {P : Program} (w : World)
theorem run_appI (hs : ∀ x, (enc x).length = s) (h0 : 0 < s) (h1 : ∀ x, ∀ u ∈ enc x, u.oneCell' = true) (t ty e : TypeId) (i : TypeInfo) (z : Value) (bytes : Nat) (ht : P.underlying t = some (.slice e)) (hi : P.info? e = some i) (hz : i.zero = some z) (hsize : i.size = s) (hby : i.bytes = bytes) (hzs : z.cells.size = s)
    {B n c m d b o : Nat} {a : Option Addr} {l l' : List α} (ho : OwnI enc s e w B a n c l) (hn : Items enc s w (some ⟨b, o, none⟩) m l') (hbytes : (n + m) * bytes ≤ 140737488355328) (h63 : n + m ≤ maxLen) (hB : B ≤ w.heap.size) :
    ∃ a' c' w', (Builtin.append_ #[t, t] ty #[.slice a n c, .slice (some ⟨b, o, none⟩) m d]).run P w = .ok (.slice a' (n + m) c') w' ∧ OwnI enc s e w' B a' (n + m) c' (l ++ l') ∧ w.grownBy w' (Value.ownBlock (.slice a n c)) := by
  obtain ⟨v', w', hr, h2, h3, _, _⟩ := run_append_own_at (P := P) w B t ty e i z s bytes ht hi hz hsize hby hzs h0 (.slice a n c) n (flatOf enc l) ho.2 ⟨b, o, none⟩ m d (flatOf enc l') (by rw [flatOf_len hs, hn.len]) (items_flat hs h0 hn) (fun u hu => by
      obtain ⟨x, _, hx⟩ := List.mem_flatMap.1 hu
      exact h1 x u hx) h63 hbytes hB
  rw [← flatOf_app] at h2
  have hl : (l ++ l').length = n + m := by rw [List.length_append, ho.1, hn.len]
  rcases h2.2 with ⟨rfl, hn'⟩ | ⟨g, cap, cur, rfl, hrest⟩
  · exact ⟨none, 0, w', by rw [hn']; exact hr, ⟨hl, by rw [hn'] at h2 ⊢; exact h2⟩, h3⟩
  · exact ⟨_, cap, w', hr, ⟨hl, h2⟩, h3⟩
theorem wpl_appI (hs : ∀ x, (enc x).length = s) (h0 : 0 < s) (h1 : ∀ x, ∀ u ∈ enc x, u.oneCell' = true) {ops : Array Oper} {rest : List Oper} {o : Oper} {act : Act} {Q : Exit → Act → World → Prop} (hgd : o.guard = none) (q x : Operand) (t : TypeId)
    (ho : o.op = .call { callee := .builtin .append, args := #[q, x], argTypes := #[t, t] })
    (e : TypeId) (i : TypeInfo) (z : Value) (bytes : Nat) (ht : P.underlying t = some (.slice e)) (hi : P.info? e = some i) (hz : i.zero = some z) (hsize : i.size = s) (hby : i.bytes = bytes) (hzs : z.cells.size = s)
    {B n c m d b off : Nat} {a : Option Addr} {l l' : List α} (hq : act.eval q = .slice a n c) (hown : OwnI enc s e w B a n c l) (hx : act.eval x = .slice (some ⟨b, off, none⟩) m d) (hnew : Items enc s w (some ⟨b, off, none⟩) m l')
    (hb1 : 0 < bytes) (hbytes : (n + m) * bytes ≤ 140737488355328) (hB : B ≤ w.heap.size)
    (h : ∀ a' c' w', OwnI enc s e w' B a' (n + m) c' (l ++ l') → Below B w w' → wpList P ops Q rest (act.put o.dst (.slice a' (n + m) c')) w') : wpList P ops Q (o :: rest) act w := by
  refine wpList_plain hgd fun K hK => ?_
  have h63 : n + m ≤ maxLen := by
    have := Nat.mul_le_mul_left (n + m) hb1
    unfold maxLen
    omega
  obtain ⟨a', c', w', hr, h2, h3⟩ := run_appI (P := P) (d := d) w hs h0 h1 t o.type e i z bytes ht hi hz hsize hby hzs hown hnew hbytes h63 hB
  unfold Oper.wp execOp
  simp only [ho, resolve, invoke, builtin, Sem.run_bind, Sem.run_pure, Result.andThen_ok, List.map_toArray, List.map_cons, List.map_nil, hq, hx, hr]
  exact hK _ _ (h a' c' w' h2 (grown_to h3 (Below.refl B w) hown.span (Nat.le_refl _) hB))
end
/-- Strings, as elements. -/
def strEnc (x : ByteArray) : List Value := [.string x]
theorem strEnc_len (x : ByteArray) : (strEnc x).length = 1 := rfl
theorem strEnc_one (x : ByteArray) : ∀ u ∈ strEnc x, u.oneCell' = true := by
  intro u hu
  have : u = .string x := by simpa [strEnc] using hu
  subst this
  rfl
end Go.Proofs.YtcmjadfpifpknaaGreat
namespace Go.Proofs.YtcmjadfpifpknaaGreat
open Go.ChangeShapes Go.WideShapes Go.ChangeAt Go.RowKit
set_option linter.unusedVariables false

section
variable {tO tI : TypeId} {w w' : World} {B S n c : Nat} {a : Option Addr} {l : List Vl} {hs : List Vh}
/-- A list without values. -/
theorem OwnV.empty (hB : B ≤ w.heap.size) : OwnV tO tI (w.alloc (.cells #[] tO)) B (some ⟨w.heap.size, 0, Option.none⟩) 0 0 [] :=
  ⟨[], ⟨rfl, World.ownsRow_lit w #[] 0 hB (by unfold maxLen; omega) (by simp)⟩, rfl, fun j g x h => by simp at h, fun i j h k _ h' => by simp at h'⟩
/-- All blocks of a list of values lie below S. -/
def Lim (S : Nat) (a : Option Addr) (hs : List Vh) : Prop := (∀ ad, a = some ad → ad.block < S) ∧ ∀ (j : Nat) (h : Vh) (ad : Addr), hs[j]? = some h → h.p = some ad → ad.block < S
/-- The list of values is the call's own, in blocks from B on and below S. -/
def OwnVB (S : Nat) (tO tI : TypeId) (w : World) (B : Nat) (a : Option Addr) (n c : Nat) (l : List Vl) : Prop :=
  ∃ hs : List Vh, OwnI Vh.enc 2 tO w B a n c hs ∧ RowsV tI w B a hs l ∧ Lim S a hs
theorem OwnVB.ownV (h : OwnVB S tO tI w B a n c l) : OwnV tO tI w B a n c l := by
  obtain ⟨hs, h1, h2, _⟩ := h
  exact ⟨hs, h1, h2⟩
theorem OwnV.lim (h : OwnV tO tI w B a n c l) : OwnVB w.heap.size tO tI w B a n c l := by
  obtain ⟨hs, h1, h2⟩ := h
  exact ⟨hs, h1, h2, fun ad e => (h1.span ad e).2, fun j k ad hk e => (h2.lt hk e).2⟩
theorem Own.far {k : IntKind} {t : TypeId} {p : Option Addr} {m d : Nat} {y : List Int} {row : Option Nat} (h : Own k t w B p m d y) (hg : w.grownBy w' row) (hr : ∀ ad, p = some ad → row ≠ some ad.block) : Own k t w' B p m d y := by
  cases p with
  | none => exact ⟨h.1, h.2.kept hg (Or.inl rfl)⟩
  | some ad =>
    refine ⟨h.1, h.2.kept hg (Or.inr ?_)⟩
    have h1 := hr ad rfl
    cases row with
    | none => simp [Value.ownBlock]
    | some r =>
      simp only [ne_eq, Option.some.injEq] at h1
      simp only [Value.ownBlock, ne_eq, Option.some.injEq]
      omega
theorem OwnI.far {α : Type} {enc : α → List Value} {s : Nat} {t : TypeId} {m d : Nat} {p : Option Addr} {y : List α} {row : Option Nat} (h : OwnI enc s t w B p m d y) (hg : w.grownBy w' row) (hr : ∀ ad, p = some ad → row ≠ some ad.block) : OwnI enc s t w' B p m d y := by
  cases p with
  | none => exact ⟨h.1, h.2.kept hg (Or.inl rfl)⟩
  | some ad =>
    refine ⟨h.1, h.2.kept hg (Or.inr ?_)⟩
    have h1 := hr ad rfl
    cases row with
    | none => simp [Value.ownBlock]
    | some r =>
      simp only [ne_eq, Option.some.injEq] at h1
      simp only [Value.ownBlock, ne_eq, Option.some.injEq]
      omega
/-- A write to a block that is none of the list's. -/
theorem OwnVB.far {row : Option Nat} (h : OwnVB S tO tI w B a n c l) (hg : w.grownBy w' row) (hr : ∀ r, row = some r → r < B ∨ S ≤ r) : OwnVB S tO tI w' B a n c l := by
  obtain ⟨hs, h1, h2, h3⟩ := h
  have hne : ∀ x, B ≤ x → x < S → row ≠ some x := fun x hx hy e => by
    rcases hr x e with q | q <;> omega
  refine ⟨hs, h1.far hg fun ad e => hne _ (h1.span ad e).1 (h3.1 ad e), ⟨h2.1, fun j g x hk hx => ?_, h2.2.2⟩, h3⟩
  obtain ⟨e, ho, hd⟩ := h2.2.1 j g x hk hx
  exact ⟨e, ho.far hg fun ad e => hne _ (ho.span ad e).1 (h3.2 j g ad hk e), hd⟩
theorem OwnVB.same (h : OwnVB S tO tI w B a n c l) (hb : Below w.heap.size w w') : OwnVB S tO tI w' B a n c l := h.far (grown_below hb none) fun r e => by cases e
/-- One value of the list is another one. -/
theorem RowsV.set (h : RowsV tI w B a hs l) {i : Nat} (hi : i < hs.length) (v : Vh) (y : List Int) (hv : Own .i64 tI w' B v.p v.m v.c y)
    (hk : ∀ (j : Nat) (g : Vh) (x : Vl), j ≠ i → hs[j]? = some g → l[j]? = some x → Own .i64 tI w' B g.p g.m g.c x.items)
    (ho : ∀ ad bd, v.p = some ad → a = some bd → ad.block ≠ bd.block)
    (hd : ∀ (j : Nat) (g : Vh) (ad bd : Addr), j ≠ i → hs[j]? = some g → v.p = some ad → g.p = some bd → ad.block ≠ bd.block) : RowsV tI w' B a (hs.set i v) (l.set i ⟨v.num, y⟩) := by
  refine ⟨by rw [List.length_set, List.length_set]; exact h.1, fun j g x hg hx => ?_, fun j j' g g' hjj hg hg' ad bd ha hb => ?_⟩
  · by_cases e : j = i
    · subst e
      rw [List.getElem?_set_self hi] at hg
      rw [List.getElem?_set_self (by rw [← h.1]; exact hi)] at hx
      cases hg
      cases hx
      exact ⟨rfl, hv, ho⟩
    · rw [List.getElem?_set_ne (by omega)] at hg hx
      exact ⟨(h.2.1 j g x hg hx).1, hk j g x e hg hx, (h.2.1 j g x hg hx).2.2⟩
  · by_cases e : j = i
    · subst e
      rw [List.getElem?_set_self hi] at hg
      rw [List.getElem?_set_ne (by omega)] at hg'
      cases hg
      exact hd j' g' ad bd (by omega) hg' ha hb
    · rw [List.getElem?_set_ne (by omega)] at hg
      by_cases e' : j' = i
      · subst e'
        rw [List.getElem?_set_self hi] at hg'
        cases hg'
        exact fun q => hd j g bd ad e hg hb ha q.symm
      · rw [List.getElem?_set_ne (by omega)] at hg'
        exact h.2.2 j j' g g' hjj hg hg' ad bd ha hb
theorem RowsV.other (h : RowsV tI w B a hs l) {i j : Nat} {g k : Vh} (hij : j ≠ i) (hj : hs[j]? = some g) (hi : hs[i]? = some k) : ∀ ad bd, k.p = some ad → g.p = some bd → ad.block ≠ bd.block := fun ad bd ha hb q => by
  rcases Nat.lt_or_ge i j with e | e
  · exact h.2.2 i j k g e hi hj ad bd ha hb q
  · exact h.2.2 j i g k (by omega) hj hi bd ad hb ha q.symm
theorem flatVh_num : ∀ (hs : List Vh) (i : Nat) (g : Vh) (k : Int), hs[i]? = some g → (flatOf Vh.enc hs).set (i * 2) (.int .i64 k) = flatOf Vh.enc (hs.set i ⟨k, g.p, g.m, g.c⟩)
  | [], i, g, k, h => by simp at h
  | y :: t, 0, g, k, h => by
    have : y = g := by simpa using h
    subst this
    simp [flatOf, Vh.enc]
  | y :: t, i + 1, g, k, h => by
    have ih := flatVh_num t i g k (by simpa using h)
    have e : flatOf Vh.enc (y :: t) = .int .i64 y.num :: .slice y.p y.m y.c :: flatOf Vh.enc t := by simp [flatOf, Vh.enc]
    rw [e, show (i + 1) * 2 = i * 2 + 1 + 1 by omega, List.set_cons_succ, List.set_cons_succ, ih, List.set_cons_succ]
    simp [flatOf, Vh.enc]
theorem flatVh_hdr : ∀ (hs : List Vh) (i : Nat) (g : Vh) (p : Option Addr) (m d : Nat), hs[i]? = some g → (flatOf Vh.enc hs).set (i * 2 + 1) (.slice p m d) = flatOf Vh.enc (hs.set i ⟨g.num, p, m, d⟩)
  | [], i, g, p, m, d, h => by simp at h
  | y :: t, 0, g, p, m, d, h => by
    have : y = g := by simpa using h
    subst this
    simp [flatOf, Vh.enc]
  | y :: t, i + 1, g, p, m, d, h => by
    have ih := flatVh_hdr t i g p m d (by simpa using h)
    have e : flatOf Vh.enc (y :: t) = .int .i64 y.num :: .slice y.p y.m y.c :: flatOf Vh.enc t := by simp [flatOf, Vh.enc]
    rw [e, show (i + 1) * 2 + 1 = i * 2 + 1 + 1 + 1 by omega, List.set_cons_succ, List.set_cons_succ, ih, List.set_cons_succ]
    simp [flatOf, Vh.enc]
/-- The number of a value is stored. -/
theorem OwnV.putNum {g : Nat} (h : OwnV tO tI w B (some ⟨g, 0, none⟩) n c l) {i : Nat} {x : Vl} (hx : l[i]? = some x) (k : Int) :
    OwnV tO tI (w.setCell ⟨g, i * 2, none⟩ (.int .i64 k)) B (some ⟨g, 0, none⟩) n c (l.set i ⟨k, x.items⟩) ∧ w.grownBy (w.setCell ⟨g, i * 2, none⟩ (.int .i64 k)) (some g) := by
  obtain ⟨hs, h1, h2⟩ := h
  have hih : i < hs.length := by rw [h2.1]; exact lt_of_some hx
  have hg := List.getElem?_eq_getElem hih
  have h3 := h1.2.stored (i * 2) (.int .i64 k)
  rw [flatVh_num hs i _ k hg] at h3
  obtain ⟨e1, ho, hd⟩ := h2.2.1 i _ x hg hx
  refine ⟨⟨_, ⟨by rw [List.length_set]; exact h1.len, h3.1⟩, h2.set hih ⟨k, (hs[i]).p, (hs[i]).m, (hs[i]).c⟩ x.items (Own.beside (b := some ⟨g, 0, none⟩) (n := n) (c := c) ho h3.2 hd) (fun j v y hj hv hy => ?_) hd (fun j v ad bd hj hv ha hb => h2.other hj hv hg ad bd ha hb)⟩, h3.2⟩
  obtain ⟨_, ho2, hd2⟩ := h2.2.1 j v y hv hy
  exact Own.beside (b := some ⟨g, 0, none⟩) (n := n) (c := c) ho2 h3.2 hd2
/-- A value is stored that is empty. -/
theorem OwnV.putZero {g : Nat} (h : OwnV tO tI w B (some ⟨g, 0, none⟩) n c l) {i : Nat} (hi : i < n) :
    OwnV tO tI ((w.setCell ⟨g, i * 2, none⟩ (.int .i64 0)).setCell ⟨g, i * 2 + 1, none⟩ (.slice none 0 0)) B (some ⟨g, 0, none⟩) n c (l.set i ⟨0, []⟩) ∧ w.grownBy ((w.setCell ⟨g, i * 2, none⟩ (.int .i64 0)).setCell ⟨g, i * 2 + 1, none⟩ (.slice none 0 0)) (some g) :=
  OwnV.put h (Below.refl _ _) hi 0 none 0 0 [] Own.nil (fun ad e => by cases e)
/-- The integers of a value are others, in the same block or in a new one. -/
theorem OwnV.putItems {g : Nat} {u : World} (h : OwnV tO tI u B (some ⟨g, 0, none⟩) n c l) {i : Nat} {x : Vl} {v : Vh} (hx : l[i]? = some x) (hi : OwnI Vh.enc 2 tO u B (some ⟨g, 0, none⟩) n c hs) (hr : RowsV tI u B (some ⟨g, 0, none⟩) hs l) (hv : hs[i]? = some v)
    {p : Option Addr} {m d : Nat} {y : List Int} (hg : u.grownBy w (Value.ownBlock (.slice v.p v.m v.c))) (ho : Own .i64 tI w B p m d y) (hp : ∀ ad, p = some ad → (∃ bd, v.p = some bd ∧ bd.block = ad.block) ∨ u.heap.size ≤ ad.block) :
    OwnV tO tI (w.setCell ⟨g, i * 2 + 1, none⟩ (.slice p m d)) B (some ⟨g, 0, none⟩) n c (l.set i ⟨x.num, y⟩) ∧ w.grownBy (w.setCell ⟨g, i * 2 + 1, none⟩ (.slice p m d)) (some g) := by
  have hgs := hi.span _ rfl
  dsimp only at hgs
  have hih : i < hs.length := by rw [hr.1]; exact lt_of_some hx
  obtain ⟨e1, hov, hdv⟩ := hr.2.1 i v x hv hx
  have hrow : ∀ ad, Value.ownBlock (.slice v.p v.m v.c) = some ad → ∃ bd, v.p = some bd ∧ bd.block = ad := fun ad e => by
    cases hvp : v.p with
    | none => rw [hvp] at e; simp [Value.ownBlock] at e
    | some bd => rw [hvp] at e; simp only [Value.ownBlock, Option.some.injEq] at e; exact ⟨bd, rfl, e⟩
  have h1 : OwnI Vh.enc 2 tO w B (some ⟨g, 0, none⟩) n c hs := hi.far hg fun ad e e2 => by
    cases e
    obtain ⟨bd, hb, hbb⟩ := hrow _ e2
    exact hdv bd _ hb rfl hbb
  have h3 := h1.2.stored (i * 2 + 1) (.slice p m d)
  rw [flatVh_hdr hs i v p m d hv] at h3
  have hpg : ∀ ad, p = some ad → ad.block ≠ g := fun ad e q => by
    rcases hp ad e with ⟨bd, hb, hbb⟩ | hlt
    · exact hdv bd _ hb rfl (by rw [hbb]; exact q)
    · omega
  have e2 : (⟨x.num, y⟩ : Vl) = ⟨v.num, y⟩ := by rw [e1]
  rw [e2]
  refine ⟨⟨_, ⟨by rw [List.length_set]; exact h1.len, h3.1⟩, hr.set hih ⟨v.num, p, m, d⟩ y (Own.beside (b := some ⟨g, 0, none⟩) (n := n) (c := c) ho h3.2 fun ad bd ha hb => by cases hb; exact hpg ad ha) (fun j q z hj hq hz => ?_) (fun ad bd ha hb => by cases hb; exact hpg ad ha) (fun j q ad bd hj hq ha hb => ?_)⟩, h3.2⟩
  · obtain ⟨_, ho2, hd2⟩ := hr.2.1 j q z hq hz
    refine Own.beside (b := some ⟨g, 0, none⟩) (n := n) (c := c) (ho2.far hg fun ad e e3 => ?_) h3.2 hd2
    obtain ⟨bd, hb, hbb⟩ := hrow _ e3
    exact hr.other hj hq hv bd ad hb e hbb
  · rcases hp ad ha with ⟨cd, hb2, hbb⟩ | hlt
    · rw [← hbb]
      exact hr.other hj hq hv cd bd hb2 hb
    · have := (hr.lt hq hb).2
      omega
end
section
variable {P : Program} (w : World)
/-- A value is appended to a list of values of the call's own. -/
theorem run_appV (t ty e tI : TypeId) (i : TypeInfo) (z : Value) (bytes : Nat) (ht : P.underlying t = some (.slice e)) (hi : P.info? e = some i) (hz : i.zero = some z) (hsize : i.size = 2) (hby : i.bytes = bytes) (hzs : z.cells.size = 2)
    {S B n c m d b o dd : Nat} {a p : Option Addr} {l : List Vl} {k : Int} {y : List Int} (ho : OwnVB S e tI w B a n c l) (hn : Items Vh.enc 2 w (some ⟨b, o, none⟩) 1 [⟨k, p, m, d⟩]) (hv : Own .i64 tI w B p m d y) (hf : ∀ ad, p = some ad → S ≤ ad.block)
    (hbytes : (n + 1) * bytes ≤ 140737488355328) (h63 : n + 1 ≤ maxLen) (hB : B ≤ w.heap.size) :
    ∃ a' c' w', (Builtin.append_ #[t, t] ty #[.slice a n c, .slice (some ⟨b, o, none⟩) 1 dd]).run P w = .ok (.slice a' (n + 1) c') w' ∧ OwnV e tI w' B a' (n + 1) c' (l ++ [⟨k, y⟩]) ∧ Below B w w' ∧ w.grownBy w' (Value.ownBlock (.slice a n c)) := by
  obtain ⟨hs, h1, h2, h3⟩ := ho
  obtain ⟨v', w', hr, q1, q2, _, q3⟩ := run_append_own_at (P := P) w B t ty e i z 2 bytes ht hi hz hsize hby hzs (by omega) (.slice a n c) n (flatOf Vh.enc hs) h1.2 ⟨b, o, none⟩ 1 dd (flatOf Vh.enc [⟨k, p, m, d⟩]) (by rw [flatOf_len Vh.enc_len]; rfl) (items_flat Vh.enc_len (by omega) hn) (fun u hu => by
      obtain ⟨x, _, hx⟩ := List.mem_flatMap.1 hu
      exact Vh.cells x u hx) h63 hbytes hB
  rw [← flatOf_app] at q1
  have hl : (hs ++ [(⟨k, p, m, d⟩ : Vh)]).length = n + 1 := by rw [List.length_append, h1.1]; rfl
  have hbw : Below B w w' := grown_to q2 (Below.refl B w) h1.span (Nat.le_refl _) hB
  rcases q1.2 with ⟨rfl, hn'⟩ | ⟨g, cap, cur, rfl, hrest⟩
  · omega
  · have hgb : (∃ bd, a = some bd ∧ bd.block = g) ∨ g = w.heap.size := by
      rcases q3 with e | e
      · left
        cases ha : a with
        | none => rw [ha] at e; simp [Value.ownBlock] at e
        | some bd => rw [ha] at e; simp only [Value.ownBlock, Option.some.injEq] at e; exact ⟨bd, rfl, e.symm⟩
      · right
        simpa [Value.ownBlock] using e
    have hpa : ∀ ad bd, p = some ad → a = some bd → ad.block ≠ bd.block := fun ad bd ha hb => by
      have := hf ad ha
      have := h3.1 bd hb
      omega
    have hpg : ∀ ad, p = some ad → ad.block ≠ g := fun ad ha => by
      rcases hgb with ⟨bd, hb, e⟩ | e
      · rw [← e]; exact hpa ad bd ha hb
      · have := (hv.span ad ha).2
        omega
    refine ⟨_, cap, w', hr, ⟨_, ⟨hl, q1⟩, by rw [List.length_append, List.length_append, h2.1]; rfl, fun j v x hj hx => ?_, fun j j' v v' hjj hj hj' ad bd ha hb => ?_⟩, hbw, q2⟩
    · rcases Nat.lt_or_ge j hs.length with q | q
      · rw [List.getElem?_append_left q] at hj
        rw [List.getElem?_append_left (by rw [← h2.1]; exact q)] at hx
        obtain ⟨e1, ho1, hd1⟩ := h2.2.1 j v x hj hx
        refine ⟨e1, ho1.beside q2 hd1, fun ad bd ha hb => ?_⟩
        cases hb
        rcases hgb with ⟨cd, hc, e⟩ | e
        · have := hd1 ad cd ha hc
          rw [e] at this
          exact this
        · have := (h2.lt hj ha).2
          dsimp only
          omega
      · obtain rfl : j = hs.length := by have := lt_of_some hj; rw [List.length_append] at this; simp at this; omega
        rw [List.getElem?_append_right (Nat.le_refl _), Nat.sub_self] at hj
        rw [List.getElem?_append_right (by rw [h2.1]; exact Nat.le_refl _), h2.1, Nat.sub_self] at hx
        cases hj
        cases hx
        exact ⟨rfl, hv.beside q2 hpa, fun ad bd ha hb => by cases hb; exact hpg ad ha⟩
    · have hjl : j < hs.length := by have := lt_of_some hj'; rw [List.length_append] at this; simp at this; omega
      rw [List.getElem?_append_left hjl] at hj
      rcases Nat.lt_or_ge j' hs.length with q | q
      · rw [List.getElem?_append_left q] at hj'
        exact h2.2.2 j j' v v' hjj hj hj' ad bd ha hb
      · obtain rfl : j' = hs.length := by have := lt_of_some hj'; rw [List.length_append] at this; simp at this; omega
        rw [List.getElem?_append_right (Nat.le_refl _), Nat.sub_self] at hj'
        cases hj'
        have := h3.2 j v ad hj ha
        have := hf bd hb
        omega
theorem wpl_appV {ops : Array Oper} {rest : List Oper} {o : Oper} {act : Act} {Q : Exit → Act → World → Prop} (hgd : o.guard = none) (q x : Operand) (t : TypeId)
    (ho : o.op = .call { callee := .builtin .append, args := #[q, x], argTypes := #[t, t] })
    (e tI : TypeId) (i : TypeInfo) (z : Value) (bytes : Nat) (ht : P.underlying t = some (.slice e)) (hi : P.info? e = some i) (hz : i.zero = some z) (hsize : i.size = 2) (hby : i.bytes = bytes) (hzs : z.cells.size = 2)
    {S B n c m d b off dd : Nat} {a p : Option Addr} {l : List Vl} {k : Int} {y : List Int} (hq : act.eval q = .slice a n c) (hown : OwnVB S e tI w B a n c l) (hx : act.eval x = .slice (some ⟨b, off, none⟩) 1 dd) (hnew : Items Vh.enc 2 w (some ⟨b, off, none⟩) 1 [⟨k, p, m, d⟩]) (hv : Own .i64 tI w B p m d y) (hf : ∀ ad, p = some ad → S ≤ ad.block)
    (hb1 : 0 < bytes) (hbytes : (n + 1) * bytes ≤ 140737488355328) (hB : B ≤ w.heap.size)
    (h : ∀ a' c' w', OwnV e tI w' B a' (n + 1) c' (l ++ [⟨k, y⟩]) → Below B w w' → wpList P ops Q rest (act.put o.dst (.slice a' (n + 1) c')) w') : wpList P ops Q (o :: rest) act w := by
  refine wpList_plain hgd fun K hK => ?_
  have h63 : n + 1 ≤ maxLen := by
    have := Nat.mul_le_mul_left (n + 1) hb1
    unfold maxLen
    omega
  obtain ⟨a', c', w', hr, h2, h3, h4⟩ := run_appV (P := P) (dd := dd) w t o.type e tI i z bytes ht hi hz hsize hby hzs hown hnew hv hf hbytes h63 hB
  unfold Oper.wp execOp
  simp only [ho, resolve, invoke, builtin, Sem.run_bind, Sem.run_pure, Result.andThen_ok, List.map_toArray, List.map_cons, List.map_nil, hq, hx, hr]
  exact hK _ _ (h a' c' w' h2 h3)
theorem wpl_appV2 {ops : Array Oper} {rest : List Oper} {o : Oper} {act : Act} {Q : Exit → Act → World → Prop} (hgd : o.guard = none) (q x : Operand) (t : TypeId)
    (ho : o.op = .call { callee := .builtin .append, args := #[q, x], argTypes := #[t, t] })
    (e tI : TypeId) (i : TypeInfo) (z : Value) (bytes : Nat) (ht : P.underlying t = some (.slice e)) (hi : P.info? e = some i) (hz : i.zero = some z) (hsize : i.size = 2) (hby : i.bytes = bytes) (hzs : z.cells.size = 2)
    {S B n c m d b off dd : Nat} {a p : Option Addr} {l : List Vl} {k : Int} {y : List Int} (hq : act.eval q = .slice a n c) (hown : OwnVB S e tI w B a n c l) (hx : act.eval x = .slice (some ⟨b, off, none⟩) 1 dd) (hnew : Items Vh.enc 2 w (some ⟨b, off, none⟩) 1 [⟨k, p, m, d⟩]) (hv : Own .i64 tI w B p m d y) (hf : ∀ ad, p = some ad → S ≤ ad.block)
    (hb1 : 0 < bytes) (hbytes : (n + 1) * bytes ≤ 140737488355328) (hB : B ≤ w.heap.size)
    (h : ∀ a' c' w', OwnV e tI w' B a' (n + 1) c' (l ++ [⟨k, y⟩]) → w.grownBy w' (Value.ownBlock (.slice a n c)) → wpList P ops Q rest (act.put o.dst (.slice a' (n + 1) c')) w') : wpList P ops Q (o :: rest) act w := by
  refine wpList_plain hgd fun K hK => ?_
  have h63 : n + 1 ≤ maxLen := by
    have := Nat.mul_le_mul_left (n + 1) hb1
    unfold maxLen
    omega
  obtain ⟨a', c', w', hr, h2, h3, h4⟩ := run_appV (P := P) (dd := dd) w t o.type e tI i z bytes ht hi hz hsize hby hzs hown hnew hv hf hbytes h63 hB
  unfold Oper.wp execOp
  simp only [ho, resolve, invoke, builtin, Sem.run_bind, Sem.run_pure, Result.andThen_ok, List.map_toArray, List.map_cons, List.map_nil, hq, hx, hr]
  exact hK _ _ (h a' c' w' h2 h4)
/-- The same at a step of a region that draws its order. -/
theorem step_appV {ops : Array Oper} {o : Oper} {act : Act} {K : Act → World → Prop} {Q : Exit → Act → World → Prop} {E : Prop} (hgd : o.guard = none) (q x : Operand) (t : TypeId)
    (ho : o.op = .call { callee := .builtin .append, args := #[q, x], argTypes := #[t, t] })
    (e tI : TypeId) (i : TypeInfo) (z : Value) (bytes : Nat) (ht : P.underlying t = some (.slice e)) (hi : P.info? e = some i) (hz : i.zero = some z) (hsize : i.size = 2) (hby : i.bytes = bytes) (hzs : z.cells.size = 2)
    {S B n c m d b off dd : Nat} {a p : Option Addr} {l : List Vl} {k : Int} {y : List Int} (hq : act.eval q = .slice a n c) (hown : OwnVB S e tI w B a n c l) (hx : act.eval x = .slice (some ⟨b, off, none⟩) 1 dd) (hnew : Items Vh.enc 2 w (some ⟨b, off, none⟩) 1 [⟨k, p, m, d⟩]) (hv : Own .i64 tI w B p m d y) (hf : ∀ ad, p = some ad → S ≤ ad.block)
    (hb1 : 0 < bytes) (hbytes : (n + 1) * bytes ≤ 140737488355328) (hB : B ≤ w.heap.size)
    (h : ∀ a' c' w', OwnV e tI w' B a' (n + 1) c' (l ++ [⟨k, y⟩]) → Below B w w' → K (act.put o.dst (.slice a' (n + 1) c')) w') :
    if Region.wanted o (yielded ops act.tmps) = true then Oper.wp P o act w K Q else E := by
  have hw : Region.wanted o (yielded ops act.tmps) = true := by simp [Region.wanted, hgd]
  rw [if_pos hw]
  have h63 : n + 1 ≤ maxLen := by
    have := Nat.mul_le_mul_left (n + 1) hb1
    unfold maxLen
    omega
  obtain ⟨a', c', w', hr, h2, h3, h4⟩ := run_appV (P := P) (dd := dd) w t o.type e tI i z bytes ht hi hz hsize hby hzs hown hnew hv hf hbytes h63 hB
  unfold Oper.wp execOp
  simp only [ho, resolve, invoke, builtin, Sem.run_bind, Sem.run_pure, Result.andThen_ok, List.map_toArray, List.map_cons, List.map_nil, hq, hx, hr]
  exact h a' c' w' h2 h3
/-- Integers are appended to a slice of the call's own, at a step of a region that draws its order: where the outcome lies. -/
theorem step_app3 {ops : Array Oper} {o : Oper} {act : Act} {K : Act → World → Prop} {Q : Exit → Act → World → Prop} {E : Prop} (hgd : o.guard = none) (s x : Operand) (t : TypeId)
    (ho : o.op = .call { callee := .builtin .append, args := #[s, x], argTypes := #[t, t] })
    (k : IntKind) (e : TypeId) (i : TypeInfo) (z : Value) (bytes : Nat) (ht : P.underlying t = some (.slice e)) (hi : P.info? e = some i) (hz : i.zero = some z) (hsize : i.size = 1) (hby : i.bytes = bytes) (hzs : z.cells.size = 1)
    {B n c m d : Nat} {a : Option Addr} {ad : Addr} {l l' : List Int} (hs : act.eval s = .slice a n c) (hown : Own k e w B a n c l) (hx : act.eval x = .slice (some ad) m d) (hnew : Nums k w (some ad) m l') (hm : 0 < m)
    (hb1 : 0 < bytes) (hbytes : (n + m) * bytes ≤ 140737488355328) (hB : B ≤ w.heap.size)
    (h : ∀ a' c' w', Own k e w' B a' (n + m) c' (l ++ l') → w.grownBy w' (Value.ownBlock (.slice a n c)) → (∀ cd, a' = some cd → (∃ bd, a = some bd ∧ bd.block = cd.block) ∨ cd.block = w.heap.size) → K (act.put o.dst (.slice a' (n + m) c')) w') :
    if Region.wanted o (yielded ops act.tmps) = true then Oper.wp P o act w K Q else E := by
  have hw : Region.wanted o (yielded ops act.tmps) = true := by simp [Region.wanted, hgd]
  rw [if_pos hw]
  have h63 : n + m ≤ maxLen := by
    have := Nat.mul_le_mul_left (n + m) hb1
    unfold maxLen
    omega
  obtain ⟨v', w', hr, h2, h3, _, h5⟩ := run_append_own_at (P := P) w B t o.type e i z 1 bytes ht hi hz hsize hby hzs (by omega) (.slice a n c) n (l.map (Value.int k)) hown.2 ad m d (l'.map (Value.int k)) (by simp [hnew.len]) (fun j u hu => by
      have hj : j < m := by
        rcases Nat.lt_or_ge j m with h | h
        · exact h
        · rw [List.getElem?_eq_none (by simp [hnew.len]; exact h)] at hu; cases hu
      obtain ⟨ad', e', hxx⟩ := hnew.cell j hj
      cases e'
      have hl : j < l'.length := by rw [hnew.len]; exact hj
      rw [List.getElem?_map, List.getElem?_eq_getElem hl] at hu
      cases hu
      rw [hxx]
      simp [List.getD, List.getElem?_eq_getElem hl]) (ints_oneCell k l') h63 hbytes hB
  rw [← List.map_append] at h2
  rcases h2.2 with ⟨rfl, hn⟩ | ⟨g, cap, cur, rfl, hrest⟩
  · omega
  · have hgb : (∃ bd, a = some bd ∧ bd.block = g) ∨ g = w.heap.size := by
      rcases h5 with e | e
      · left
        cases ha : a with
        | none => rw [ha] at e; simp [Value.ownBlock] at e
        | some bd => rw [ha] at e; simp only [Value.ownBlock, Option.some.injEq] at e; exact ⟨bd, rfl, e.symm⟩
      · right
        simpa [Value.ownBlock] using e
    unfold Oper.wp execOp
    simp only [ho, resolve, invoke, builtin, Sem.run_bind, Sem.run_pure, Result.andThen_ok, List.map_toArray, List.map_cons, List.map_nil, hs, hx, hr]
    exact h _ cap w' ⟨by have := hown.len; have := hnew.len; simp; omega, h2⟩ h3 (fun cd e => by cases e; exact hgb)
end
end Go.Proofs.YtcmjadfpifpknaaGreat
namespace Go.Proofs.YtcmjadfpifpknaaGreat
open Go.ChangeShapes Go.WideShapes Go.ChangeAt Go.RowKit
set_option linter.unusedVariables false

/-- What a function leaves that reads a field's value at place k. -/
def RdTold (tI : TypeId) (x : Fd) (y : List Int) (k : Nat) (w : World) (e : Ending) (w' : World) : Prop :=
  match rdF x y k with
  | none => e = .returned (.tuple #[.agg #[.int .i64 0, .slice none 0 0], .int .i64 (-1)]) ∧ Below w.heap.size w w'
  | some (v, k') => ∃ p q g, e = .returned (.tuple #[.agg #[.int .i64 v.num, .slice p q g], .int .i64 k']) ∧ Own .i64 tI w' w.heap.size p q g v.items ∧ Below w.heap.size w w'
theorem rdF_end {x : Fd} {y : List Int} {k : Nat} (h : y.length ≤ k) : rdF x y k = none := by unfold rdF; rw [List.getElem?_eq_none h]
theorem rdF_num {x : Fd} {y : List Int} {k : Nat} {z : Int} (hz : y[k]? = some z) (hk : x.kind = 1) : rdF x y k = if fitsField x z [] = true then some (⟨z, []⟩, k + 1) else none := by unfold rdF; rw [hz]; dsimp only; rw [if_pos hk]
theorem rdF_out {x : Fd} {y : List Int} {k : Nat} {z : Int} (hz : y[k]? = some z) (hk : x.kind ≠ 1) (h : ¬ (0 ≤ z ∧ z ≤ (y.length : Int) - k - 1)) : rdF x y k = none := by unfold rdF; rw [hz]; dsimp only; rw [if_neg hk, if_neg h]
theorem rdF_row {x : Fd} {y : List Int} {k q : Nat} (hz : y[k]? = some (q : Int)) (hk : x.kind ≠ 1) (h : k + 1 + q ≤ y.length) : rdF x y k = if fitsField x 0 ((y.drop (k + 1)).take q) = true then some (⟨0, (y.drop (k + 1)).take q⟩, k + 1 + q) else none := by
  unfold rdF
  rw [hz]
  dsimp only
  rw [if_neg hk, if_pos ⟨by omega, by omega⟩, Int.toNat_natCast]

/-- Three blocks are made, one behind the other. -/
theorem three (w : World) (A B C : Array Value) (t1 t2 t3 : TypeId) :
    w.heap.size + 3 = (((w.alloc (.cells A t1)).alloc (.cells B t2)).alloc (.cells C t3)).heap.size ∧
    (((w.alloc (.cells A t1)).alloc (.cells B t2)).alloc (.cells C t3)).heap[w.heap.size]? = some (.cells A t1 (0, 0)) ∧
    (((w.alloc (.cells A t1)).alloc (.cells B t2)).alloc (.cells C t3)).heap[w.heap.size + 1]? = some (.cells B t2 (0, 0)) ∧
    (((w.alloc (.cells A t1)).alloc (.cells B t2)).alloc (.cells C t3)).heap[w.heap.size + 1 + 1]? = some (.cells C t3 (0, 0)) ∧
    Below w.heap.size w (((w.alloc (.cells A t1)).alloc (.cells B t2)).alloc (.cells C t3)) := by
  refine ⟨by simp, ?_, ?_, ?_, (((Below.refl _ w).alloc (Nat.le_refl _) _).alloc (by simp) _).alloc (by simp; omega) _⟩
  · rw [Below.heap_alloc _ _ _ (by simp; omega), Below.heap_alloc _ _ _ (by simp)]
    exact heap_alloc_new w _
  · rw [Below.heap_alloc _ _ _ (by simp)]
    have := heap_alloc_new (w.alloc (.cells A t1)) (.cells B t2)
    simpa using this
  · have := heap_alloc_new ((w.alloc (.cells A t1)).alloc (.cells B t2)) (.cells C t3)
    simpa using this
theorem two_cells {w : World} {g : Nat} {t : TypeId} {a b : Value} (h : w.heap[g]? = some (.cells #[a, b] t (0, 0))) : w.cell? ⟨g, 0, none⟩ = some a ∧ w.cell? ⟨g, 1, none⟩ = some b ∧ w.frozen? ⟨g, 0, none⟩ = false ∧ w.frozen? ⟨g, 1, none⟩ = false :=
  ⟨(block_cell h 0).trans rfl, (block_cell h 1).trans rfl, block_frozen h 0, block_frozen h 1⟩
theorem two_put {w : World} {g : Nat} {t : TypeId} {a b : Value} (h : w.heap[g]? = some (.cells #[a, b] t (0, 0))) (c d : Value) :
    (w.setCell ⟨g, 0, none⟩ c).cell? ⟨g, 0, none⟩ = some c ∧ ((w.setCell ⟨g, 0, none⟩ c).setCell ⟨g, 1, none⟩ d).cell? ⟨g, 1, none⟩ = some d ∧ ((w.setCell ⟨g, 0, none⟩ c).setCell ⟨g, 1, none⟩ d).heap[g]? = some (.cells #[c, d] t (0, 0)) := by
  have h1 := heap_setCell_same w g 0 _ _ c h
  have h2 := heap_setCell_same _ g 1 _ _ d h1
  exact ⟨(block_cell h1 0).trans rfl, (block_cell h2 1).trans rfl, h2⟩

end Go.Proofs.YtcmjadfpifpknaaGreat
namespace Go.Proofs.YtcmjadfpifpknaaGreat
open Go.ChangeShapes Go.WideShapes Go.ChangeAt Go.RowKit
set_option linter.unusedVariables false

def tagsX (l : List Vl) : List Int := l.map Vl.num
def okX (x : Vl) : Bool := decide (0 ≤ x.num ∧ x.num ≤ 255) && fitIts x.items 4 255
def areX (l : List Vl) : Bool := decide (l.length ≤ 6) && l.all okX && decide (tagsX l).Nodup
def codeX (x : Vl) : List Int := x.num :: (x.items.length : Int) :: x.items
def codesX (l : List Vl) : List Int := l.flatMap codeX
def encX (l : List Vl) : List Int := (l.length : Int) :: codesX l
theorem tagsX_len (l : List Vl) : (tagsX l).length = l.length := by simp [tagsX]
theorem areX_parts {l : List Vl} : areX l = true ↔ l.length ≤ 6 ∧ (∀ x ∈ l, okX x = true) ∧ (tagsX l).Nodup := by
  unfold areX
  simp [Bool.and_eq_true, List.all_eq_true]
  exact ⟨fun h => ⟨h.1.1, h.1.2, h.2⟩, fun h => ⟨⟨h.1, h.2.1⟩, h.2.2⟩⟩
theorem codesX_app (l m : List Vl) : codesX (l ++ m) = codesX l ++ codesX m := by simp [codesX]
theorem codesX_cons (x : Vl) (l : List Vl) : codesX (x :: l) = codeX x ++ codesX l := by simp [codesX]
theorem codesX_one (x : Vl) : codesX [x] = codeX x := by simp [codesX]
theorem codeX_len (x : Vl) : (codeX x).length = x.items.length + 2 := by simp [codeX]
theorem codesX_len (l : List Vl) : (codesX l).length = 2 * l.length + itemsOf l := by
  induction l with
  | nil => rfl
  | cons x t ih =>
    rw [codesX_cons, List.length_append, ih, codeX_len]
    simp only [itemsOf, List.length_cons, List.map_cons, List.sum_cons]
    omega
theorem codesX_take {l : List Vl} {j : Nat} {x : Vl} (h : l[j]? = some x) : codesX (l.take (j + 1)) = codesX (l.take j) ++ codeX x := by
  rw [List.take_add_one, h, Option.toList_some, codesX_app, codesX_one]
theorem okX_few {x : Vl} (h : okX x = true) : x.items.length ≤ 4 := by
  unfold okX fitIts at h
  simp only [Bool.and_eq_true, decide_eq_true_eq] at h
  omega
theorem okX_tag {x : Vl} (h : okX x = true) : 0 ≤ x.num ∧ x.num ≤ 255 := by
  unfold okX at h
  simp only [Bool.and_eq_true, decide_eq_true_eq] at h
  exact h.1
theorem items_few : ∀ {l : List Vl}, (∀ x ∈ l, okX x = true) → itemsOf l ≤ 4 * l.length
  | [], _ => by simp [itemsOf]
  | x :: t, h => by
    have h1 := okX_few (h x (by simp))
    have h2 := items_few (l := t) (fun y hy => h y (by simp [hy]))
    simp only [itemsOf, List.map_cons, List.sum_cons, List.length_cons] at *
    omega
theorem areX_few {l : List Vl} (h : areX l = true) : l.length ≤ 6 ∧ itemsOf l ≤ 24 := by
  have h1 := areX_parts.1 h
  have h2 := items_few h1.2.1
  omega
theorem encX_few {l : List Vl} (h : areX l = true) : (encX l).length ≤ 37 := by
  have h1 := areX_few h
  unfold encX
  rw [List.length_cons, codesX_len]
  omega
/-- The three fields whose values are the parts. -/
def fdN : Fd := ⟨1, 6, -1, 0⟩
def fdT : Fd := ⟨1, 255, -1, 0⟩
def fdB : Fd := ⟨2, 4, -1, 0⟩
theorem fitsT (k : Int) : fitsField fdT k [] = decide (0 ≤ k ∧ k ≤ 255) := by show (decide (0 ≤ k ∧ k ≤ 255) && decide (([] : List Int).length = 0)) = _; rw [show decide (([] : List Int).length = 0) = true from rfl, Bool.and_true]
theorem fitsN (k : Int) : fitsField fdN k [] = decide (0 ≤ k ∧ k ≤ 6) := by show (decide (0 ≤ k ∧ k ≤ 6) && decide (([] : List Int).length = 0)) = _; rw [show decide (([] : List Int).length = 0) = true from rfl, Bool.and_true]
theorem fitsB (y : List Int) : fitsField fdB 0 y = fitIts y 4 255 := by simp [fitsField, fdB]
/-- One extension, read from place k on. -/
def rdX (b : List Int) (k : Nat) : Option (Vl × Nat) :=
  match rdF fdT b k with
  | none => none
  | some (t, k1) => match rdF fdB b k1 with
    | none => none
    | some (y, k2) => some (⟨t.num, y.items⟩, k2)
/-- The first j extensions, read from place 1 on. -/
def rdXs (b : List Int) : Nat → Option (List Vl × Nat)
  | 0 => some ([], 1)
  | j + 1 => match rdXs b j with
    | none => none
    | some (l, k) => (rdX b k).map fun p => (l ++ [p.1], p.2)
def rdAll (b : List Int) : Option (List Vl × Nat) :=
  match rdF fdN b 0 with
  | none => none
  | some (c, _) => rdXs b c.num.toNat
def decX (b : List Int) : Option (List Vl) :=
  match rdAll b with
  | none => none
  | some (l, k) => if k = b.length ∧ areX l = true then some l else none
theorem rdF_kind1 {x : Fd} {b : List Int} {k k' : Nat} {t : Vl} (hk : x.kind = 1) (h : rdF x b k = some (t, k')) : t.items = [] ∧ k' = k + 1 := by
  unfold rdF at h
  split at h
  · cases h
  · rename_i z hz
    rw [if_pos hk] at h
    split at h
    · cases h; exact ⟨rfl, rfl⟩
    · cases h
theorem rdF_kind2 {x : Fd} {b : List Int} {k k' : Nat} {t : Vl} (hk : x.kind ≠ 1) (h : rdF x b k = some (t, k')) : t.num = 0 := by
  unfold rdF at h
  split at h
  · cases h
  · rename_i z hz
    rw [if_neg hk] at h
    split at h
    · split at h
      · cases h; rfl
      · cases h
    · cases h
theorem rdX_code {x : Vl} (h : okX x = true) (p r : List Int) : rdX (p ++ codeX x ++ r) p.length = some (x, (p ++ codeX x).length) := by
  unfold okX at h
  rw [Bool.and_eq_true] at h
  obtain ⟨t, y⟩ := x
  dsimp only at h
  have h1 := rdF_code (x := fdT) (y := ⟨t, []⟩) (by rw [fitsT]; exact h.1) p ((y.length : Int) :: y ++ r)
  have h2 := rdF_code (x := fdB) (y := ⟨0, y⟩) (by rw [fitsB]; exact h.2) (p ++ [t]) r
  have c1 : codeV fdT ⟨t, []⟩ = [t] := rfl
  have c2 : codeV fdB ⟨0, y⟩ = (y.length : Int) :: y := rfl
  rw [c1] at h1
  rw [c2] at h2
  have e : p ++ codeX ⟨t, y⟩ ++ r = p ++ [t] ++ ((y.length : Int) :: y ++ r) := by simp [codeX]
  have e2 : p ++ [t] ++ ((y.length : Int) :: y) ++ r = p ++ [t] ++ ((y.length : Int) :: y ++ r) := by simp
  rw [e2] at h2
  unfold rdX
  rw [e, h1]
  dsimp only
  rw [h2]
  simp [codeX]
theorem rdX_form {b : List Int} {k k' : Nat} {x : Vl} (h : rdX b k = some (x, k')) : k ≤ k' ∧ k' ≤ b.length ∧ b.take k' = b.take k ++ codeX x ∧ okX x = true := by
  unfold rdX at h
  split at h
  · cases h
  · rename_i t k1 h1
    split at h
    · cases h
    · rename_i y k2 h2
      cases h
      have f1 := rdF_form h1
      have f2 := rdF_form h2
      have g1 := rdF_kind1 (x := fdT) rfl h1
      have g2 := rdF_kind2 (x := fdB) (by decide) h2
      obtain ⟨tn, ti⟩ := t
      obtain ⟨yn, yi⟩ := y
      dsimp only at g1 g2 f1 f2 ⊢
      obtain ⟨rfl, _⟩ := g1
      subst g2
      refine ⟨by omega, f2.2.1, ?_, ?_⟩
      · rw [f2.2.2.1, f1.2.2.1]
        simp [codeV, fdT, fdB, codeX]
      · unfold okX
        rw [fitsT] at f1
        rw [fitsB] at f2
        rw [f1.2.2.2, f2.2.2.2]
        rfl
theorem rdXs_code {l : List Vl} (h : ∀ x ∈ l, okX x = true) : ∀ j, j ≤ l.length → rdXs (encX l) j = some (l.take j, 1 + (codesX (l.take j)).length)
  | 0, _ => by simp [rdXs, codesX]
  | j + 1, hj => by
    obtain ⟨x, hx⟩ : ∃ x, l[j]? = some x := ⟨_, List.getElem?_eq_getElem (by omega)⟩
    have e : encX l = ((l.length : Int) :: codesX (l.take j)) ++ codeX x ++ codesX (l.drop (j + 1)) := by
      unfold encX
      conv => lhs; rw [← List.take_append_drop (j + 1) l, codesX_app, codesX_take hx]
      simp
    have h1 := rdX_code (h x (List.mem_of_getElem? hx)) ((l.length : Int) :: codesX (l.take j)) (codesX (l.drop (j + 1)))
    rw [← e] at h1
    rw [rdXs, rdXs_code h j (by omega)]
    dsimp only
    rw [show 1 + (codesX (l.take j)).length = ((l.length : Int) :: codesX (l.take j)).length by simp; omega, h1, codesX_take hx, List.take_add_one, hx]
    simp
    omega
theorem rdXs_form {b : List Int} {c : Int} (hb : b.take 1 = [c]) : ∀ j l k, rdXs b j = some (l, k) → l.length = j ∧ k ≤ b.length ∧ b.take k = c :: codesX l ∧ ∀ x ∈ l, okX x = true
  | 0, l, k, h => by
    have : l = [] ∧ k = 1 := by simpa [rdXs, eq_comm] using h
    obtain ⟨rfl, rfl⟩ := this
    refine ⟨rfl, ?_, by rw [hb]; rfl, fun x hx => by cases hx⟩
    cases b with
    | nil => simp at hb
    | cons => simp
  | j + 1, l, k, h => by
    rw [rdXs] at h
    split at h
    · cases h
    · rename_i l0 k0 h0
      obtain ⟨q1, q2, q3, q4⟩ := rdXs_form hb j l0 k0 h0
      cases hx : rdX b k0 with
      | none => rw [hx] at h; cases h
      | some p =>
        rw [hx] at h
        obtain ⟨x, k1⟩ := p
        cases h
        obtain ⟨r1, r2, r3, r4⟩ := rdX_form hx
        refine ⟨by simp [q1], r2, by rw [r3, q3, codesX_app, codesX_one]; rfl, fun y hy => ?_⟩
        rcases List.mem_append.1 hy with s | s
        · exact q4 y s
        · have : y = x := by simpa using s
          rw [this]; exact r4
theorem rdAll_enc {l : List Vl} (h : areX l = true) : rdAll (encX l) = some (l, (encX l).length) := by
  obtain ⟨h1, h2, h3⟩ := areX_parts.1 h
  have h4 := rdF_num (x := fdN) (y := encX l) (k := 0) (z := (l.length : Int)) rfl rfl
  rw [fitsN, if_pos (by simp; omega)] at h4
  unfold rdAll
  rw [h4]
  dsimp only
  rw [Int.toNat_natCast, rdXs_code h2 l.length (Nat.le_refl _), List.take_length]
  simp [encX]
  omega
theorem rdAll_form {b : List Int} {l : List Vl} {k : Nat} (h : rdAll b = some (l, k)) : l.length ≤ 6 ∧ k ≤ b.length ∧ b.take k = encX l ∧ ∀ x ∈ l, okX x = true := by
  unfold rdAll at h
  split at h
  · cases h
  · rename_i c k0 h0
    have f := rdF_form h0
    have g := rdF_kind1 (x := fdN) rfl h0
    obtain ⟨cn, ci⟩ := c
    dsimp only at f g h
    obtain ⟨rfl, rfl⟩ := g
    rw [fitsN] at f
    have hc : 0 ≤ cn ∧ cn ≤ 6 := by simpa using f.2.2.2
    obtain ⟨q1, q2, q3, q4⟩ := rdXs_form (c := cn) (by rw [show (1 : Nat) = 0 + 1 from rfl, f.2.2.1]; rfl) _ _ _ h
    refine ⟨by omega, q2, ?_, q4⟩
    rw [q3]
    unfold encX
    rw [q1, Int.toNat_of_nonneg hc.1]
/-- What is read is just what was written. -/
theorem decX_iff {b : List Int} {l : List Vl} : decX b = some l ↔ areX l = true ∧ b = encX l := by
  constructor
  · intro h
    unfold decX at h
    split at h
    · cases h
    · rename_i l0 k h0
      split at h
      · rename_i hk
        cases h
        obtain ⟨_, _, h3, _⟩ := rdAll_form h0
        rw [hk.1, List.take_length] at h3
        exact ⟨hk.2, h3⟩
      · cases h
  · rintro ⟨h1, rfl⟩
    unfold decX
    rw [rdAll_enc h1]
    dsimp only
    rw [if_pos ⟨rfl, h1⟩]
theorem decX_few {b : List Int} {l : List Vl} (h : decX b = some l) : l.length ≤ 6 ∧ itemsOf l ≤ 24 := areX_few (decX_iff.1 h).1
/-- The place of a tag. -/
def extOf (l : List Vl) (t : Int) : Int := if t ∈ tagsX l then ((tagsX l).idxOf t : Int) else -1
def knownOf (l : List Vl) (ts : List Int) : List Vl := l.filter fun x => decide (x.num ∈ ts)
theorem extOf_no {l : List Vl} {t : Int} (h : ¬ t ∈ tagsX l) : extOf l t = -1 := if_neg h
theorem extOf_yes {l : List Vl} {t : Int} (h : t ∈ tagsX l) : extOf l t = ((tagsX l).idxOf t : Int) := if_pos h
theorem tags_at {l : List Vl} {j : Nat} {x : Vl} (h : l[j]? = some x) : (tagsX l)[j]? = some x.num := by simp [tagsX, h]
theorem tags_take {l : List Vl} {j : Nat} {x : Vl} (h : l[j]? = some x) : tagsX (l.take (j + 1)) = tagsX (l.take j) ++ [x.num] := by
  rw [List.take_add_one, h]
  simp [tagsX]
theorem tags_mem {l : List Vl} {j : Nat} {x : Vl} (h : l[j]? = some x) : x.num ∈ tagsX l := List.mem_of_getElem? (tags_at h)
theorem idx_le : ∀ {zs : List Int} {i : Nat} {z : Int}, zs[i]? = some z → zs.idxOf z ≤ i
  | [], i, z, h => by simp at h
  | x :: t, 0, z, h => by
    have : x = z := by simpa using h
    subst this
    simp
  | x :: t, i + 1, z, h => by
    have := idx_le (zs := t) (i := i) (z := z) (by simpa using h)
    rw [List.idxOf_cons]
    cases x == z <;> simp
    exact this
/-- The tags differ just if each stands first at its own place. -/
theorem nodup_first {zs : List Int} : zs.Nodup ↔ ∀ j z, zs[j]? = some z → ¬ zs.idxOf z < j := by
  constructor
  · intro h j z hz hlt
    have hj : j < zs.length := (List.getElem?_eq_some_iff.1 hz).1
    have hi : zs.idxOf z < zs.length := by omega
    have e1 := List.getElem_idxOf hi
    obtain ⟨_, e2⟩ := List.getElem?_eq_some_iff.1 hz
    exact List.pairwise_iff_getElem.1 h _ _ hi hj hlt (by rw [e1, e2])
  · intro h
    rw [List.Nodup, List.pairwise_iff_getElem]
    intro i j hi hj hij e
    refine h j zs[j] (List.getElem?_eq_getElem hj) ?_
    have : zs.idxOf zs[j] ≤ i := idx_le (by rw [List.getElem?_eq_getElem hi, e])
    omega
end Go.Proofs.YtcmjadfpifpknaaGreat
