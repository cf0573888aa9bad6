/- Lists of values of the call's own, all blocks below a bound: what a write elsewhere leaves; one value put, one appended. No function of the program is spoken of. The helpers of the exact laws at lists of values: marked, looked at. The helpers of the exact laws at lists of extensions: marked, looked at. The kinds of fields, and the greatest Max of each; being in a range. Being a format: by the program and by its model. -/
import Derived.Test.YtnjjfagokbbelaaG2
import Derived.Test.YtnjjfagokbbelaaG1
import Derived.Deep.QuietTactic
import Derived.BigQuiet
import Derived.RegionTactic
import Derived.Handy
import Derived.Deep.RegionHeld3
namespace Go.Proofs.Ytnjjfagokbbelaa
open Go.ChangeShapes Go.WideShapes Go.ChangeAt Go.RowKit
set_option linter.unusedVariables false

section
variable {tO tI : TypeId} {w w' : World} {B S n c : Nat} {a : Option Addr} {l : List Vl} {hs : List Vh}
/-- A list without values. -/
theorem OwnV.empty (hB : B ≤ w.heap.size) : OwnV tO tI (w.alloc (.cells #[] tO)) B (some ⟨w.heap.size, 0, Option.none⟩) 0 0 [] :=
  ⟨[], ⟨rfl, World.ownsRow_lit w #[] 0 hB (by unfold maxLen; omega) (by simp)⟩, rfl, fun j g x h => by simp at h, fun i j h k _ h' => by simp at h'⟩
/-- All blocks of a list of values lie below S. -/
def Lim (S : Nat) (a : Option Addr) (hs : List Vh) : Prop := (∀ ad, a = some ad → ad.block < S) ∧ ∀ (j : Nat) (h : Vh) (ad : Addr), hs[j]? = some h → h.p = some ad → ad.block < S
/-- The list of values is the call's own, in blocks from B on and below S. -/
def OwnVB (S : Nat) (tO tI : TypeId) (w : World) (B : Nat) (a : Option Addr) (n c : Nat) (l : List Vl) : Prop :=
  ∃ hs : List Vh, OwnI Vh.enc 2 tO w B a n c hs ∧ RowsV tI w B a hs l ∧ Lim S a hs
theorem OwnVB.ownV (h : OwnVB S tO tI w B a n c l) : OwnV tO tI w B a n c l := by
  obtain ⟨hs, h1, h2, _⟩ := h
  exact ⟨hs, h1, h2⟩
theorem OwnV.lim (h : OwnV tO tI w B a n c l) : OwnVB w.heap.size tO tI w B a n c l := by
  obtain ⟨hs, h1, h2⟩ := h
  exact ⟨hs, h1, h2, fun ad e => (h1.span ad e).2, fun j k ad hk e => (h2.lt hk e).2⟩
theorem Own.far {k : IntKind} {t : TypeId} {p : Option Addr} {m d : Nat} {y : List Int} {row : Option Nat} (h : Own k t w B p m d y) (hg : w.grownBy w' row) (hr : ∀ ad, p = some ad → row ≠ some ad.block) : Own k t w' B p m d y := by
  cases p with
  | none => exact ⟨h.1, h.2.kept hg (Or.inl rfl)⟩
  | some ad =>
    refine ⟨h.1, h.2.kept hg (Or.inr ?_)⟩
    have h1 := hr ad rfl
    cases row with
    | none => simp [Value.ownBlock]
    | some r =>
      simp only [ne_eq, Option.some.injEq] at h1
      simp only [Value.ownBlock, ne_eq, Option.some.injEq]
      omega
theorem OwnI.far {α : Type} {enc : α → List Value} {s : Nat} {t : TypeId} {m d : Nat} {p : Option Addr} {y : List α} {row : Option Nat} (h : OwnI enc s t w B p m d y) (hg : w.grownBy w' row) (hr : ∀ ad, p = some ad → row ≠ some ad.block) : OwnI enc s t w' B p m d y := by
  cases p with
  | none => exact ⟨h.1, h.2.kept hg (Or.inl rfl)⟩
  | some ad =>
    refine ⟨h.1, h.2.kept hg (Or.inr ?_)⟩
    have h1 := hr ad rfl
    cases row with
    | none => simp [Value.ownBlock]
    | some r =>
      simp only [ne_eq, Option.some.injEq] at h1
      simp only [Value.ownBlock, ne_eq, Option.some.injEq]
      omega
/-- A write to a block that is none of the list's. -/
theorem OwnVB.far {row : Option Nat} (h : OwnVB S tO tI w B a n c l) (hg : w.grownBy w' row) (hr : ∀ r, row = some r → r < B ∨ S ≤ r) : OwnVB S tO tI w' B a n c l := by
  obtain ⟨hs, h1, h2, h3⟩ := h
  have hne : ∀ x, B ≤ x → x < S → row ≠ some x := fun x hx hy e => by
    rcases hr x e with q | q <;> omega
  refine ⟨hs, h1.far hg fun ad e => hne _ (h1.span ad e).1 (h3.1 ad e), ⟨h2.1, fun j g x hk hx => ?_, h2.2.2⟩, h3⟩
  obtain ⟨e, ho, hd⟩ := h2.2.1 j g x hk hx
  exact ⟨e, ho.far hg fun ad e => hne _ (ho.span ad e).1 (h3.2 j g ad hk e), hd⟩
theorem OwnVB.same (h : OwnVB S tO tI w B a n c l) (hb : Below w.heap.size w w') : OwnVB S tO tI w' B a n c l := h.far (grown_below hb none) fun r e => by cases e
/-- One value of the list is another one. -/
theorem RowsV.set (h : RowsV tI w B a hs l) {i : Nat} (hi : i < hs.length) (v : Vh) (y : List Int) (hv : Own .i64 tI w' B v.p v.m v.c y)
    (hk : ∀ (j : Nat) (g : Vh) (x : Vl), j ≠ i → hs[j]? = some g → l[j]? = some x → Own .i64 tI w' B g.p g.m g.c x.items)
    (ho : ∀ ad bd, v.p = some ad → a = some bd → ad.block ≠ bd.block)
    (hd : ∀ (j : Nat) (g : Vh) (ad bd : Addr), j ≠ i → hs[j]? = some g → v.p = some ad → g.p = some bd → ad.block ≠ bd.block) : RowsV tI w' B a (hs.set i v) (l.set i ⟨v.num, y⟩) := by
  refine ⟨by rw [List.length_set, List.length_set]; exact h.1, fun j g x hg hx => ?_, fun j j' g g' hjj hg hg' ad bd ha hb => ?_⟩
  · by_cases e : j = i
    · subst e
      rw [List.getElem?_set_self hi] at hg
      rw [List.getElem?_set_self (by rw [← h.1]; exact hi)] at hx
      cases hg
      cases hx
      exact ⟨rfl, hv, ho⟩
    · rw [List.getElem?_set_ne (by omega)] at hg hx
      exact ⟨(h.2.1 j g x hg hx).1, hk j g x e hg hx, (h.2.1 j g x hg hx).2.2⟩
  · by_cases e : j = i
    · subst e
      rw [List.getElem?_set_self hi] at hg
      rw [List.getElem?_set_ne (by omega)] at hg'
      cases hg
      exact hd j' g' ad bd (by omega) hg' ha hb
    · rw [List.getElem?_set_ne (by omega)] at hg
      by_cases e' : j' = i
      · subst e'
        rw [List.getElem?_set_self hi] at hg'
        cases hg'
        exact fun q => hd j g bd ad e hg hb ha q.symm
      · rw [List.getElem?_set_ne (by omega)] at hg'
        exact h.2.2 j j' g g' hjj hg hg' ad bd ha hb
theorem RowsV.other (h : RowsV tI w B a hs l) {i j : Nat} {g k : Vh} (hij : j ≠ i) (hj : hs[j]? = some g) (hi : hs[i]? = some k) : ∀ ad bd, k.p = some ad → g.p = some bd → ad.block ≠ bd.block := fun ad bd ha hb q => by
  rcases Nat.lt_or_ge i j with e | e
  · exact h.2.2 i j k g e hi hj ad bd ha hb q
  · exact h.2.2 j i g k (by omega) hj hi bd ad hb ha q.symm
theorem flatVh_num : ∀ (hs : List Vh) (i : Nat) (g : Vh) (k : Int), hs[i]? = some g → (flatOf Vh.enc hs).set (i * 2) (.int .i64 k) = flatOf Vh.enc (hs.set i ⟨k, g.p, g.m, g.c⟩)
  | [], i, g, k, h => by simp at h
  | y :: t, 0, g, k, h => by
    have : y = g := by simpa using h
    subst this
    simp [flatOf, Vh.enc]
  | y :: t, i + 1, g, k, h => by
    have ih := flatVh_num t i g k (by simpa using h)
    have e : flatOf Vh.enc (y :: t) = .int .i64 y.num :: .slice y.p y.m y.c :: flatOf Vh.enc t := by simp [flatOf, Vh.enc]
    rw [e, show (i + 1) * 2 = i * 2 + 1 + 1 by omega, List.set_cons_succ, List.set_cons_succ, ih, List.set_cons_succ]
    simp [flatOf, Vh.enc]
theorem flatVh_hdr : ∀ (hs : List Vh) (i : Nat) (g : Vh) (p : Option Addr) (m d : Nat), hs[i]? = some g → (flatOf Vh.enc hs).set (i * 2 + 1) (.slice p m d) = flatOf Vh.enc (hs.set i ⟨g.num, p, m, d⟩)
  | [], i, g, p, m, d, h => by simp at h
  | y :: t, 0, g, p, m, d, h => by
    have : y = g := by simpa using h
    subst this
    simp [flatOf, Vh.enc]
  | y :: t, i + 1, g, p, m, d, h => by
    have ih := flatVh_hdr t i g p m d (by simpa using h)
    have e : flatOf Vh.enc (y :: t) = .int .i64 y.num :: .slice y.p y.m y.c :: flatOf Vh.enc t := by simp [flatOf, Vh.enc]
    rw [e, show (i + 1) * 2 + 1 = i * 2 + 1 + 1 + 1 by omega, List.set_cons_succ, List.set_cons_succ, ih, List.set_cons_succ]
    simp [flatOf, Vh.enc]
/-- The number of a value is stored. -/
theorem OwnV.putNum {g : Nat} (h : OwnV tO tI w B (some ⟨g, 0, none⟩) n c l) {i : Nat} {x : Vl} (hx : l[i]? = some x) (k : Int) :
    OwnV tO tI (w.setCell ⟨g, i * 2, none⟩ (.int .i64 k)) B (some ⟨g, 0, none⟩) n c (l.set i ⟨k, x.items⟩) ∧ w.grownBy (w.setCell ⟨g, i * 2, none⟩ (.int .i64 k)) (some g) := by
  obtain ⟨hs, h1, h2⟩ := h
  have hih : i < hs.length := by rw [h2.1]; exact lt_of_some hx
  have hg := List.getElem?_eq_getElem hih
  have h3 := h1.2.stored (i * 2) (.int .i64 k)
  rw [flatVh_num hs i _ k hg] at h3
  obtain ⟨e1, ho, hd⟩ := h2.2.1 i _ x hg hx
  refine ⟨⟨_, ⟨by rw [List.length_set]; exact h1.len, h3.1⟩, h2.set hih ⟨k, (hs[i]).p, (hs[i]).m, (hs[i]).c⟩ x.items (Own.beside (b := some ⟨g, 0, none⟩) (n := n) (c := c) ho h3.2 hd) (fun j v y hj hv hy => ?_) hd (fun j v ad bd hj hv ha hb => h2.other hj hv hg ad bd ha hb)⟩, h3.2⟩
  obtain ⟨_, ho2, hd2⟩ := h2.2.1 j v y hv hy
  exact Own.beside (b := some ⟨g, 0, none⟩) (n := n) (c := c) ho2 h3.2 hd2
/-- A value is stored that is empty. -/
theorem OwnV.putZero {g : Nat} (h : OwnV tO tI w B (some ⟨g, 0, none⟩) n c l) {i : Nat} (hi : i < n) :
    OwnV tO tI ((w.setCell ⟨g, i * 2, none⟩ (.int .i64 0)).setCell ⟨g, i * 2 + 1, none⟩ (.slice none 0 0)) B (some ⟨g, 0, none⟩) n c (l.set i ⟨0, []⟩) ∧ w.grownBy ((w.setCell ⟨g, i * 2, none⟩ (.int .i64 0)).setCell ⟨g, i * 2 + 1, none⟩ (.slice none 0 0)) (some g) :=
  OwnV.put h (Below.refl _ _) hi 0 none 0 0 [] Own.nil (fun ad e => by cases e)
/-- The integers of a value are others, in the same block or in a new one. -/
theorem OwnV.putItems {g : Nat} {u : World} (h : OwnV tO tI u B (some ⟨g, 0, none⟩) n c l) {i : Nat} {x : Vl} {v : Vh} (hx : l[i]? = some x) (hi : OwnI Vh.enc 2 tO u B (some ⟨g, 0, none⟩) n c hs) (hr : RowsV tI u B (some ⟨g, 0, none⟩) hs l) (hv : hs[i]? = some v)
    {p : Option Addr} {m d : Nat} {y : List Int} (hg : u.grownBy w (Value.ownBlock (.slice v.p v.m v.c))) (ho : Own .i64 tI w B p m d y) (hp : ∀ ad, p = some ad → (∃ bd, v.p = some bd ∧ bd.block = ad.block) ∨ u.heap.size ≤ ad.block) :
    OwnV tO tI (w.setCell ⟨g, i * 2 + 1, none⟩ (.slice p m d)) B (some ⟨g, 0, none⟩) n c (l.set i ⟨x.num, y⟩) ∧ w.grownBy (w.setCell ⟨g, i * 2 + 1, none⟩ (.slice p m d)) (some g) := by
  have hgs := hi.span _ rfl
  dsimp only at hgs
  have hih : i < hs.length := by rw [hr.1]; exact lt_of_some hx
  obtain ⟨e1, hov, hdv⟩ := hr.2.1 i v x hv hx
  have hrow : ∀ ad, Value.ownBlock (.slice v.p v.m v.c) = some ad → ∃ bd, v.p = some bd ∧ bd.block = ad := fun ad e => by
    cases hvp : v.p with
    | none => rw [hvp] at e; simp [Value.ownBlock] at e
    | some bd => rw [hvp] at e; simp only [Value.ownBlock, Option.some.injEq] at e; exact ⟨bd, rfl, e⟩
  have h1 : OwnI Vh.enc 2 tO w B (some ⟨g, 0, none⟩) n c hs := hi.far hg fun ad e e2 => by
    cases e
    obtain ⟨bd, hb, hbb⟩ := hrow _ e2
    exact hdv bd _ hb rfl hbb
  have h3 := h1.2.stored (i * 2 + 1) (.slice p m d)
  rw [flatVh_hdr hs i v p m d hv] at h3
  have hpg : ∀ ad, p = some ad → ad.block ≠ g := fun ad e q => by
    rcases hp ad e with ⟨bd, hb, hbb⟩ | hlt
    · exact hdv bd _ hb rfl (by rw [hbb]; exact q)
    · omega
  have e2 : (⟨x.num, y⟩ : Vl) = ⟨v.num, y⟩ := by rw [e1]
  rw [e2]
  refine ⟨⟨_, ⟨by rw [List.length_set]; exact h1.len, h3.1⟩, hr.set hih ⟨v.num, p, m, d⟩ y (Own.beside (b := some ⟨g, 0, none⟩) (n := n) (c := c) ho h3.2 fun ad bd ha hb => by cases hb; exact hpg ad ha) (fun j q z hj hq hz => ?_) (fun ad bd ha hb => by cases hb; exact hpg ad ha) (fun j q ad bd hj hq ha hb => ?_)⟩, h3.2⟩
  · obtain ⟨_, ho2, hd2⟩ := hr.2.1 j q z hq hz
    refine Own.beside (b := some ⟨g, 0, none⟩) (n := n) (c := c) (ho2.far hg fun ad e e3 => ?_) h3.2 hd2
    obtain ⟨bd, hb, hbb⟩ := hrow _ e3
    exact hr.other hj hq hv bd ad hb e hbb
  · rcases hp ad ha with ⟨cd, hb2, hbb⟩ | hlt
    · rw [← hbb]
      exact hr.other hj hq hv cd bd hb2 hb
    · have := (hr.lt hq hb).2
      omega
end
section
variable {P : Program} (w : World)
/-- A value is appended to a list of values of the call's own. -/
theorem run_appV (t ty e tI : TypeId) (i : TypeInfo) (z : Value) (bytes : Nat) (ht : P.underlying t = some (.slice e)) (hi : P.info? e = some i) (hz : i.zero = some z) (hsize : i.size = 2) (hby : i.bytes = bytes) (hzs : z.cells.size = 2)
    {S B n c m d b o dd : Nat} {a p : Option Addr} {l : List Vl} {k : Int} {y : List Int} (ho : OwnVB S e tI w B a n c l) (hn : Items Vh.enc 2 w (some ⟨b, o, none⟩) 1 [⟨k, p, m, d⟩]) (hv : Own .i64 tI w B p m d y) (hf : ∀ ad, p = some ad → S ≤ ad.block)
    (hbytes : (n + 1) * bytes ≤ 140737488355328) (h63 : n + 1 ≤ maxLen) (hB : B ≤ w.heap.size) :
    ∃ a' c' w', (Builtin.append_ #[t, t] ty #[.slice a n c, .slice (some ⟨b, o, none⟩) 1 dd]).run P w = .ok (.slice a' (n + 1) c') w' ∧ OwnV e tI w' B a' (n + 1) c' (l ++ [⟨k, y⟩]) ∧ Below B w w' ∧ w.grownBy w' (Value.ownBlock (.slice a n c)) := by
  obtain ⟨hs, h1, h2, h3⟩ := ho
  obtain ⟨v', w', hr, q1, q2, _, q3⟩ := run_append_own_at (P := P) w B t ty e i z 2 bytes ht hi hz hsize hby hzs (by omega) (.slice a n c) n (flatOf Vh.enc hs) h1.2 ⟨b, o, none⟩ 1 dd (flatOf Vh.enc [⟨k, p, m, d⟩]) (by rw [flatOf_len Vh.enc_len]; rfl) (items_flat Vh.enc_len (by omega) hn) (fun u hu => by
      obtain ⟨x, _, hx⟩ := List.mem_flatMap.1 hu
      exact Vh.cells x u hx) h63 hbytes hB
  rw [← flatOf_app] at q1
  have hl : (hs ++ [(⟨k, p, m, d⟩ : Vh)]).length = n + 1 := by rw [List.length_append, h1.1]; rfl
  have hbw : Below B w w' := grown_to q2 (Below.refl B w) h1.span (Nat.le_refl _) hB
  rcases q1.2 with ⟨rfl, hn'⟩ | ⟨g, cap, cur, rfl, hrest⟩
  · omega
  · have hgb : (∃ bd, a = some bd ∧ bd.block = g) ∨ g = w.heap.size := by
      rcases q3 with e | e
      · left
        cases ha : a with
        | none => rw [ha] at e; simp [Value.ownBlock] at e
        | some bd => rw [ha] at e; simp only [Value.ownBlock, Option.some.injEq] at e; exact ⟨bd, rfl, e.symm⟩
      · right
        simpa [Value.ownBlock] using e
    have hpa : ∀ ad bd, p = some ad → a = some bd → ad.block ≠ bd.block := fun ad bd ha hb => by
      have := hf ad ha
      have := h3.1 bd hb
      omega
    have hpg : ∀ ad, p = some ad → ad.block ≠ g := fun ad ha => by
      rcases hgb with ⟨bd, hb, e⟩ | e
      · rw [← e]; exact hpa ad bd ha hb
      · have := (hv.span ad ha).2
        omega
    refine ⟨_, cap, w', hr, ⟨_, ⟨hl, q1⟩, by rw [List.length_append, List.length_append, h2.1]; rfl, fun j v x hj hx => ?_, fun j j' v v' hjj hj hj' ad bd ha hb => ?_⟩, hbw, q2⟩
    · rcases Nat.lt_or_ge j hs.length with q | q
      · rw [List.getElem?_append_left q] at hj
        rw [List.getElem?_append_left (by rw [← h2.1]; exact q)] at hx
        obtain ⟨e1, ho1, hd1⟩ := h2.2.1 j v x hj hx
        refine ⟨e1, ho1.beside q2 hd1, fun ad bd ha hb => ?_⟩
        cases hb
        rcases hgb with ⟨cd, hc, e⟩ | e
        · have := hd1 ad cd ha hc
          rw [e] at this
          exact this
        · have := (h2.lt hj ha).2
          dsimp only
          omega
      · obtain rfl : j = hs.length := by have := lt_of_some hj; rw [List.length_append] at this; simp at this; omega
        rw [List.getElem?_append_right (Nat.le_refl _), Nat.sub_self] at hj
        rw [List.getElem?_append_right (by rw [h2.1]; exact Nat.le_refl _), h2.1, Nat.sub_self] at hx
        cases hj
        cases hx
        exact ⟨rfl, hv.beside q2 hpa, fun ad bd ha hb => by cases hb; exact hpg ad ha⟩
    · have hjl : j < hs.length := by have := lt_of_some hj'; rw [List.length_append] at this; simp at this; omega
      rw [List.getElem?_append_left hjl] at hj
      rcases Nat.lt_or_ge j' hs.length with q | q
      · rw [List.getElem?_append_left q] at hj'
        exact h2.2.2 j j' v v' hjj hj hj' ad bd ha hb
      · obtain rfl : j' = hs.length := by have := lt_of_some hj'; rw [List.length_append] at this; simp at this; omega
        rw [List.getElem?_append_right (Nat.le_refl _), Nat.sub_self] at hj'
        cases hj'
        have := h3.2 j v ad hj ha
        have := hf bd hb
        omega
theorem wpl_appV {ops : Array Oper} {rest : List Oper} {o : Oper} {act : Act} {Q : Exit → Act → World → Prop} (hgd : o.guard = none) (q x : Operand) (t : TypeId)
    (ho : o.op = .call { callee := .builtin .append, args := #[q, x], argTypes := #[t, t] })
    (e tI : TypeId) (i : TypeInfo) (z : Value) (bytes : Nat) (ht : P.underlying t = some (.slice e)) (hi : P.info? e = some i) (hz : i.zero = some z) (hsize : i.size = 2) (hby : i.bytes = bytes) (hzs : z.cells.size = 2)
    {S B n c m d b off dd : Nat} {a p : Option Addr} {l : List Vl} {k : Int} {y : List Int} (hq : act.eval q = .slice a n c) (hown : OwnVB S e tI w B a n c l) (hx : act.eval x = .slice (some ⟨b, off, none⟩) 1 dd) (hnew : Items Vh.enc 2 w (some ⟨b, off, none⟩) 1 [⟨k, p, m, d⟩]) (hv : Own .i64 tI w B p m d y) (hf : ∀ ad, p = some ad → S ≤ ad.block)
    (hb1 : 0 < bytes) (hbytes : (n + 1) * bytes ≤ 140737488355328) (hB : B ≤ w.heap.size)
    (h : ∀ a' c' w', OwnV e tI w' B a' (n + 1) c' (l ++ [⟨k, y⟩]) → Below B w w' → wpList P ops Q rest (act.put o.dst (.slice a' (n + 1) c')) w') : wpList P ops Q (o :: rest) act w := by
  refine wpList_plain hgd fun K hK => ?_
  have h63 : n + 1 ≤ maxLen := by
    have := Nat.mul_le_mul_left (n + 1) hb1
    unfold maxLen
    omega
  obtain ⟨a', c', w', hr, h2, h3, h4⟩ := run_appV (P := P) (dd := dd) w t o.type e tI i z bytes ht hi hz hsize hby hzs hown hnew hv hf hbytes h63 hB
  unfold Oper.wp execOp
  simp only [ho, resolve, invoke, builtin, Sem.run_bind, Sem.run_pure, Result.andThen_ok, List.map_toArray, List.map_cons, List.map_nil, hq, hx, hr]
  exact hK _ _ (h a' c' w' h2 h3)
theorem wpl_appV2 {ops : Array Oper} {rest : List Oper} {o : Oper} {act : Act} {Q : Exit → Act → World → Prop} (hgd : o.guard = none) (q x : Operand) (t : TypeId)
    (ho : o.op = .call { callee := .builtin .append, args := #[q, x], argTypes := #[t, t] })
    (e tI : TypeId) (i : TypeInfo) (z : Value) (bytes : Nat) (ht : P.underlying t = some (.slice e)) (hi : P.info? e = some i) (hz : i.zero = some z) (hsize : i.size = 2) (hby : i.bytes = bytes) (hzs : z.cells.size = 2)
    {S B n c m d b off dd : Nat} {a p : Option Addr} {l : List Vl} {k : Int} {y : List Int} (hq : act.eval q = .slice a n c) (hown : OwnVB S e tI w B a n c l) (hx : act.eval x = .slice (some ⟨b, off, none⟩) 1 dd) (hnew : Items Vh.enc 2 w (some ⟨b, off, none⟩) 1 [⟨k, p, m, d⟩]) (hv : Own .i64 tI w B p m d y) (hf : ∀ ad, p = some ad → S ≤ ad.block)
    (hb1 : 0 < bytes) (hbytes : (n + 1) * bytes ≤ 140737488355328) (hB : B ≤ w.heap.size)
    (h : ∀ a' c' w', OwnV e tI w' B a' (n + 1) c' (l ++ [⟨k, y⟩]) → w.grownBy w' (Value.ownBlock (.slice a n c)) → wpList P ops Q rest (act.put o.dst (.slice a' (n + 1) c')) w') : wpList P ops Q (o :: rest) act w := by
  refine wpList_plain hgd fun K hK => ?_
  have h63 : n + 1 ≤ maxLen := by
    have := Nat.mul_le_mul_left (n + 1) hb1
    unfold maxLen
    omega
  obtain ⟨a', c', w', hr, h2, h3, h4⟩ := run_appV (P := P) (dd := dd) w t o.type e tI i z bytes ht hi hz hsize hby hzs hown hnew hv hf hbytes h63 hB
  unfold Oper.wp execOp
  simp only [ho, resolve, invoke, builtin, Sem.run_bind, Sem.run_pure, Result.andThen_ok, List.map_toArray, List.map_cons, List.map_nil, hq, hx, hr]
  exact hK _ _ (h a' c' w' h2 h4)
/-- The same at a step of a region that draws its order. -/
theorem step_appV {ops : Array Oper} {o : Oper} {act : Act} {K : Act → World → Prop} {Q : Exit → Act → World → Prop} {E : Prop} (hgd : o.guard = none) (q x : Operand) (t : TypeId)
    (ho : o.op = .call { callee := .builtin .append, args := #[q, x], argTypes := #[t, t] })
    (e tI : TypeId) (i : TypeInfo) (z : Value) (bytes : Nat) (ht : P.underlying t = some (.slice e)) (hi : P.info? e = some i) (hz : i.zero = some z) (hsize : i.size = 2) (hby : i.bytes = bytes) (hzs : z.cells.size = 2)
    {S B n c m d b off dd : Nat} {a p : Option Addr} {l : List Vl} {k : Int} {y : List Int} (hq : act.eval q = .slice a n c) (hown : OwnVB S e tI w B a n c l) (hx : act.eval x = .slice (some ⟨b, off, none⟩) 1 dd) (hnew : Items Vh.enc 2 w (some ⟨b, off, none⟩) 1 [⟨k, p, m, d⟩]) (hv : Own .i64 tI w B p m d y) (hf : ∀ ad, p = some ad → S ≤ ad.block)
    (hb1 : 0 < bytes) (hbytes : (n + 1) * bytes ≤ 140737488355328) (hB : B ≤ w.heap.size)
    (h : ∀ a' c' w', OwnV e tI w' B a' (n + 1) c' (l ++ [⟨k, y⟩]) → Below B w w' → K (act.put o.dst (.slice a' (n + 1) c')) w') :
    if Region.wanted o (yielded ops act.tmps) = true then Oper.wp P o act w K Q else E := by
  have hw : Region.wanted o (yielded ops act.tmps) = true := by simp [Region.wanted, hgd]
  rw [if_pos hw]
  have h63 : n + 1 ≤ maxLen := by
    have := Nat.mul_le_mul_left (n + 1) hb1
    unfold maxLen
    omega
  obtain ⟨a', c', w', hr, h2, h3, h4⟩ := run_appV (P := P) (dd := dd) w t o.type e tI i z bytes ht hi hz hsize hby hzs hown hnew hv hf hbytes h63 hB
  unfold Oper.wp execOp
  simp only [ho, resolve, invoke, builtin, Sem.run_bind, Sem.run_pure, Result.andThen_ok, List.map_toArray, List.map_cons, List.map_nil, hq, hx, hr]
  exact h a' c' w' h2 h3
/-- Integers are appended to a slice of the call's own, at a step of a region that draws its order: where the outcome lies. -/
theorem step_app3 {ops : Array Oper} {o : Oper} {act : Act} {K : Act → World → Prop} {Q : Exit → Act → World → Prop} {E : Prop} (hgd : o.guard = none) (s x : Operand) (t : TypeId)
    (ho : o.op = .call { callee := .builtin .append, args := #[s, x], argTypes := #[t, t] })
    (k : IntKind) (e : TypeId) (i : TypeInfo) (z : Value) (bytes : Nat) (ht : P.underlying t = some (.slice e)) (hi : P.info? e = some i) (hz : i.zero = some z) (hsize : i.size = 1) (hby : i.bytes = bytes) (hzs : z.cells.size = 1)
    {B n c m d : Nat} {a : Option Addr} {ad : Addr} {l l' : List Int} (hs : act.eval s = .slice a n c) (hown : Own k e w B a n c l) (hx : act.eval x = .slice (some ad) m d) (hnew : Nums k w (some ad) m l') (hm : 0 < m)
    (hb1 : 0 < bytes) (hbytes : (n + m) * bytes ≤ 140737488355328) (hB : B ≤ w.heap.size)
    (h : ∀ a' c' w', Own k e w' B a' (n + m) c' (l ++ l') → w.grownBy w' (Value.ownBlock (.slice a n c)) → (∀ cd, a' = some cd → (∃ bd, a = some bd ∧ bd.block = cd.block) ∨ cd.block = w.heap.size) → K (act.put o.dst (.slice a' (n + m) c')) w') :
    if Region.wanted o (yielded ops act.tmps) = true then Oper.wp P o act w K Q else E := by
  have hw : Region.wanted o (yielded ops act.tmps) = true := by simp [Region.wanted, hgd]
  rw [if_pos hw]
  have h63 : n + m ≤ maxLen := by
    have := Nat.mul_le_mul_left (n + m) hb1
    unfold maxLen
    omega
  obtain ⟨v', w', hr, h2, h3, _, h5⟩ := run_append_own_at (P := P) w B t o.type e i z 1 bytes ht hi hz hsize hby hzs (by omega) (.slice a n c) n (l.map (Value.int k)) hown.2 ad m d (l'.map (Value.int k)) (by simp [hnew.len]) (fun j u hu => by
      have hj : j < m := by
        rcases Nat.lt_or_ge j m with h | h
        · exact h
        · rw [List.getElem?_eq_none (by simp [hnew.len]; exact h)] at hu; cases hu
      obtain ⟨ad', e', hxx⟩ := hnew.cell j hj
      cases e'
      have hl : j < l'.length := by rw [hnew.len]; exact hj
      rw [List.getElem?_map, List.getElem?_eq_getElem hl] at hu
      cases hu
      rw [hxx]
      simp [List.getD, List.getElem?_eq_getElem hl]) (ints_oneCell k l') h63 hbytes hB
  rw [← List.map_append] at h2
  rcases h2.2 with ⟨rfl, hn⟩ | ⟨g, cap, cur, rfl, hrest⟩
  · omega
  · have hgb : (∃ bd, a = some bd ∧ bd.block = g) ∨ g = w.heap.size := by
      rcases h5 with e | e
      · left
        cases ha : a with
        | none => rw [ha] at e; simp [Value.ownBlock] at e
        | some bd => rw [ha] at e; simp only [Value.ownBlock, Option.some.injEq] at e; exact ⟨bd, rfl, e.symm⟩
      · right
        simpa [Value.ownBlock] using e
    unfold Oper.wp execOp
    simp only [ho, resolve, invoke, builtin, Sem.run_bind, Sem.run_pure, Result.andThen_ok, List.map_toArray, List.map_cons, List.map_nil, hs, hx, hr]
    exact h _ cap w' ⟨by have := hown.len; have := hnew.len; simp; omega, h2⟩ h3 (fun cd e => by cases e; exact hgb)
end
end Go.Proofs.Ytnjjfagokbbelaa
namespace Go.Proofs.Ytnjjfagokbbelaa
open Go.ChangeShapes Go.WideShapes Go.ChangeAt Go.RowKit
set_option linter.unusedVariables false

/-- Only blocks from lo on and below hi have changed, or are new. -/
structure Inside (lo hi : Nat) (w w' : World) : Prop where
  os : w'.os = w.os
  tape : w'.tape = w.tape
  output : w'.output = w.output
  size : w.heap.size ≤ w'.heap.size
  block : ∀ k, k < w.heap.size → k < lo ∨ hi ≤ k → w'.heap[k]? = w.heap[k]?
theorem Inside.refl (lo hi : Nat) (w : World) : Inside lo hi w w := ⟨rfl, rfl, rfl, Nat.le_refl _, fun _ _ _ => rfl⟩
theorem Inside.trans {lo hi : Nat} {a b c : World} (h : Inside lo hi a b) (k : Inside lo hi b c) : Inside lo hi a c :=
  ⟨k.os.trans h.os, k.tape.trans h.tape, k.output.trans h.output, Nat.le_trans h.size k.size, fun i hi hr => (k.block i (Nat.lt_of_lt_of_le hi h.size) hr).trans (h.block i hi hr)⟩
theorem Inside.row {lo hi : Nat} {w w' : World} {row : Option Nat} (h : w.grownBy w' row) (hr : ∀ r, row = some r → lo ≤ r ∧ r < hi) : Inside lo hi w w' :=
  ⟨h.os, h.tape, h.output, h.size, fun k hk hd => h.block k hk fun e => by have := hr k e.symm; omega⟩
theorem Inside.to {lo hi B0 : Nat} {w0 w w' : World} (h : Inside lo hi w w') (hb : Below B0 w0 w) (h0 : B0 ≤ lo) (h1 : B0 ≤ w.heap.size) : Below B0 w0 w' :=
  hb.trans ⟨h.os, h.tape, h.output, h.size, fun k hk => h.block k (by omega) (Or.inl (by omega))⟩
section
variable {tO tI : TypeId} {w w' : World} {B S n c lo hi : Nat} {a : Option Addr} {l : List Vl} {hs : List Vh}
/-- The one block of a row, as it was. -/
theorem Inside.one (h : Inside lo hi w w') (ad : Addr) (hd : ad.block < lo ∨ hi ≤ ad.block) (hs : ad.block < w.heap.size) : ∃ w2 : World, w.grownBy w2 none ∧ w2.heap[ad.block]? = w'.heap[ad.block]? := ⟨w, grown_below (Below.refl _ _) _, (h.block _ hs hd).symm⟩
theorem row_aside {t : TypeId} {s : Nat} {v : Value} {xs : List Value} (h : w.ownsRow B t s v n xs) (hg : Inside lo hi w w') (hd : ∀ r, v.ownBlock = some r → r < lo ∨ hi ≤ r) : w'.ownsRow B t s v n xs := by
  refine ⟨h.1, ?_⟩
  rcases h.2 with hn | ⟨g, cap, cur, rfl, hb, hgg, rest⟩
  · exact .inl hn
  · refine .inr ⟨g, cap, cur, rfl, hb, ?_, rest⟩
    rw [hg.block g (Array.getElem?_eq_some_iff.1 hgg).1 (hd g rfl)]
    exact hgg
theorem block_of {p : Option Addr} {m d r : Nat} (h : Value.ownBlock (.slice p m d) = some r) : ∃ ad, p = some ad ∧ ad.block = r := by
  cases p with
  | none => simp [Value.ownBlock] at h
  | some ad => simp only [Value.ownBlock, Option.some.injEq] at h; exact ⟨ad, rfl, h⟩
theorem Own.aside {k : IntKind} {t : TypeId} {m d lo' hi' : Nat} {p : Option Addr} {y : List Int} (h : Own k t w B p m d y) (hg : Inside lo hi w w') (s : Span p lo' hi') (hd : hi ≤ lo' ∨ hi' ≤ lo) : Own k t w' B p m d y :=
  ⟨h.1, row_aside h.2 hg fun r e => by
    obtain ⟨ad, e1, rfl⟩ := block_of e
    have := s ad e1
    omega⟩
theorem OwnI.aside {α : Type} {enc : α → List Value} {s : Nat} {t : TypeId} {m d lo' hi' : Nat} {p : Option Addr} {y : List α} (h : OwnI enc s t w B p m d y) (hg : Inside lo hi w w') (sp : Span p lo' hi') (hd : hi ≤ lo' ∨ hi' ≤ lo) : OwnI enc s t w' B p m d y :=
  ⟨h.1, row_aside h.2 hg fun r e => by
    obtain ⟨ad, e1, rfl⟩ := block_of e
    have := sp ad e1
    omega⟩
theorem OwnVB.aside (h : OwnVB S tO tI w B a n c l) (hg : Inside lo hi w w') (hd : hi ≤ B ∨ S ≤ lo) : OwnVB S tO tI w' B a n c l := by
  obtain ⟨hs, h1, h2, h3⟩ := h
  refine ⟨hs, h1.aside hg (lo' := B) (hi' := S) (fun ad e => ⟨(h1.span ad e).1, h3.1 ad e⟩) hd, ⟨h2.1, fun j g x hk hx => ?_, h2.2.2⟩, h3⟩
  obtain ⟨e, ho, hd1⟩ := h2.2.1 j g x hk hx
  exact ⟨e, ho.aside hg (lo' := B) (hi' := S) (fun ad e => ⟨(ho.span ad e).1, h3.2 j g ad hk e⟩) hd, hd1⟩
/-- Marks on another slice. -/
theorem OwnVB.apart {b : Option Addr} {m d lo' hi' : Nat} (h : OwnVB S tO tI w B a n c l) (hg : w.grownBy w' (Value.ownBlock (.slice b m d))) (s' : Span b lo' hi') (hd : hi' ≤ B ∨ S ≤ lo') : OwnVB S tO tI w' B a n c l :=
  h.far hg fun r e => by
    obtain ⟨ad, e1, rfl⟩ := block_of e
    have := s' ad e1
    omega
theorem OwnVB.len (h : OwnVB S tO tI w B a n c l) : l.length = n := h.ownV.len
theorem OwnVB.room (h : OwnVB S tO tI w B a n c l) : n ≤ c ∧ (c : Int) ≤ 9223372036854775807 := h.ownV.room
theorem OwnVB.vals (h : OwnVB S tO tI w B a n c l) : Vals w a n l := h.ownV.vals
/-- The number of a value is stored. -/
theorem OwnVB.putNum {g : Nat} (h : OwnVB S tO tI w B (some ⟨g, 0, none⟩) n c l) {i : Nat} {x : Vl} (hx : l[i]? = some x) (k : Int) :
    OwnVB S tO tI (w.setCell ⟨g, i * 2, none⟩ (.int .i64 k)) B (some ⟨g, 0, none⟩) n c (l.set i ⟨k, x.items⟩) ∧ Inside B S w (w.setCell ⟨g, i * 2, none⟩ (.int .i64 k)) := by
  obtain ⟨hs, h1, h2, hL⟩ := h
  have hih : i < hs.length := by rw [h2.1]; exact lt_of_some hx
  have hg := List.getElem?_eq_getElem hih
  have h3 := h1.2.stored (i * 2) (.int .i64 k)
  rw [flatVh_num hs i _ k hg] at h3
  obtain ⟨e1, ho, hd⟩ := h2.2.1 i _ x hg hx
  refine ⟨⟨_, ⟨by rw [List.length_set]; exact h1.len, h3.1⟩, h2.set hih ⟨k, (hs[i]).p, (hs[i]).m, (hs[i]).c⟩ x.items (Own.beside (b := some ⟨g, 0, none⟩) (n := n) (c := c) ho h3.2 hd) (fun j v y hj hv hy => ?_) hd (fun j v ad bd hj hv ha hb => h2.other hj hv hg ad bd ha hb), hL.1, fun j v ad hv e => ?_⟩, Inside.row h3.2 fun r e => ?_⟩
  · obtain ⟨_, ho2, hd2⟩ := h2.2.1 j v y hv hy
    exact Own.beside (b := some ⟨g, 0, none⟩) (n := n) (c := c) ho2 h3.2 hd2
  · by_cases q : j = i
    · subst q
      rw [List.getElem?_set_self hih] at hv
      cases hv
      exact hL.2 j _ ad hg e
    · rw [List.getElem?_set_ne (by omega)] at hv
      exact hL.2 j v ad hv e
  · cases e
    exact ⟨(h1.span _ rfl).1, hL.1 _ rfl⟩
/-- The integers of a value are overwritten in place. -/
theorem OwnVB.over (h1 : OwnI Vh.enc 2 tO w B a n c hs) (h2 : RowsV tI w B a hs l) (hL : Lim S a hs) {i : Nat} {x : Vl} {v : Vh} (hx : l[i]? = some x) (hv : hs[i]? = some v) {y : List Int} (hg : w.grownBy w' (Value.ownBlock (.slice v.p v.m v.c))) (ho : Own .i64 tI w' B v.p v.m v.c y) :
    OwnVB S tO tI w' B a n c (l.set i ⟨x.num, y⟩) ∧ Inside B S w w' := by
  have hih : i < hs.length := by rw [h2.1]; exact lt_of_some hx
  obtain ⟨e1, hov, hdv⟩ := h2.2.1 i v x hv hx
  have e2 : (⟨x.num, y⟩ : Vl) = ⟨v.num, y⟩ := by rw [e1]
  have e3 : hs = hs.set i v := by
    apply List.ext_getElem?
    intro j
    by_cases q : j = i
    · subst q
      rw [List.getElem?_set_self hih, hv]
    · rw [List.getElem?_set_ne (by omega)]
  rw [e2]
  refine ⟨⟨hs, h1.far hg fun ad e q => ?_, ?_, hL⟩, Inside.row hg fun r e => ?_⟩
  · obtain ⟨bd, hb, hbb⟩ := block_of q
    exact hdv bd ad hb e hbb
  · rw [e3]
    refine h2.set hih v y ho (fun j g z hj hq hz => ?_) hdv (fun j g ad bd hj hq ha hb => h2.other hj hq hv ad bd ha hb)
    obtain ⟨_, ho2, hd2⟩ := h2.2.1 j g z hq hz
    refine ho2.far hg fun ad e q => ?_
    obtain ⟨bd, hb, hbb⟩ := block_of q
    exact h2.other hj hq hv bd ad hb e hbb
  · obtain ⟨bd, hb, rfl⟩ := block_of e
    exact ⟨(hov.span bd hb).1, hL.2 i v bd hv hb⟩
end
/-- The marks that are laid: each one more than the one before. -/
def marksV (j : Nat) : List Vl → List Vl
  | [] => []
  | x :: t => ⟨((j : Nat) : Int), marksIntS (j + 1) x.items.length⟩ :: marksV (j + 1 + x.items.length) t
theorem marksV_len : ∀ (l : List Vl) (j : Nat), (marksV j l).length = l.length
  | [], _ => rfl
  | x :: t, j => by rw [marksV, List.length_cons, List.length_cons, marksV_len t]
theorem marksV_app : ∀ (l m : List Vl) (j : Nat), marksV j (l ++ m) = marksV j l ++ marksV (j + l.length + itemsOf l) m
  | [], m, j => by simp [marksV, itemsOf]
  | x :: t, m, j => by
    rw [List.cons_append, marksV, marksV_app t m, marksV, List.cons_append]
    congr 3
    simp only [itemsOf, List.length_cons, List.map_cons, List.sum_cons]
    omega
theorem marksV_take {l : List Vl} {j : Nat} {x : Vl} (k : Nat) (h : l[j]? = some x) : marksV k (l.take (j + 1)) = marksV k (l.take j) ++ [⟨((k + j + itemsOf (l.take j) : Nat) : Int), marksIntS (k + j + itemsOf (l.take j) + 1) x.items.length⟩] := by
  have hj := lt_of_some h
  rw [List.take_add_one, h, Option.toList_some, marksV_app, List.length_take, Nat.min_eq_left (by omega)]
  rfl
theorem marksV_at : ∀ {l : List Vl} {j : Nat} {x : Vl} (k : Nat), l[j]? = some x → (marksV k l)[j]? = some ⟨((k + j + itemsOf (l.take j) : Nat) : Int), marksIntS (k + j + itemsOf (l.take j) + 1) x.items.length⟩
  | [], j, x, k, h => by simp at h
  | y :: t, 0, x, k, h => by
    have : y = x := by simpa using h
    subst this
    simp [marksV, itemsOf]
  | y :: t, j + 1, x, k, h => by
    rw [marksV, List.getElem?_cons_succ, marksV_at _ (by simpa using h), List.take_succ_cons]
    have e : itemsOf (y :: t.take j) = y.items.length + itemsOf (t.take j) := by simp [itemsOf]
    rw [e]
    congr 2
    · omega
    · congr 1
      omega
theorem marksV_items : ∀ (l : List Vl) (j : Nat), itemsOf (marksV j l) = itemsOf l
  | [], _ => rfl
  | x :: t, j => by
    have := marksV_items t (j + 1 + x.items.length)
    unfold itemsOf at *
    rw [marksV, List.map_cons, List.map_cons, List.sum_cons, List.sum_cons, this, marksIntS_len]
theorem set_mid {α : Type} (A : List α) (p : Nat) (h : A.length = p) (x y : α) (R : List α) : (A ++ x :: R).set p y = A ++ y :: R := by
  subst h
  rw [List.set_append_right _ _ (Nat.le_refl _), Nat.sub_self, List.set_cons_zero]
theorem get_mid {α : Type} (A : List α) (p : Nat) (h : A.length = p) (x : α) (R : List α) : (A ++ x :: R)[p]? = some x := by
  subst h
  rw [List.getElem?_append_right (Nat.le_refl _), Nat.sub_self]
  rfl
theorem drop_at {l : List Vl} {j : Nat} {x : Vl} (h : l[j]? = some x) : l.drop j = x :: l.drop (j + 1) := by
  have hj := lt_of_some h
  rw [List.drop_eq_getElem_cons hj]
  rw [List.getElem?_eq_getElem hj] at h
  cases h
  rfl

end Go.Proofs.Ytnjjfagokbbelaa
namespace Go.Proofs.Ytnjjfagokbbelaa
open Go.ChangeShapes Go.WideShapes Go.ChangeAt Go.RowKit
set_option linter.unusedVariables false

set_option maxHeartbeats 2000000 in
set_option maxRecDepth 100000 in
theorem markExtS_any (S B : Nat) (a : Option Addr) (n c j0 : Nat) (l : List Vl) (w : World) (h : OwnVB S 57 3 w B a n c l) (h0 : j0 ≤ 100000000000) (hn : n ≤ 1000000000) (hit : itemsOf l ≤ 1000000000) :
    Calls Try.prog 39 #[.slice a n c, .int .i64 j0] w fun e w' => e = .returned (.int .i64 ((j0 + n + itemsOf l : Nat) : Int)) ∧ OwnVB S 57 3 w' B a n c (marksV j0 l) ∧ Inside B S w w' := by
  have H := Lib.hid h
  have hln := Lib.hid h.len
  clear h
  go_enter Try.func39, Try.ntmps39
  go_wp2_with fail
  go_loopw [1, 5] (fun q i wr => ∃ j : Nat, j ≤ n ∧ i = .int .i64 j ∧ q = .int .i64 ((j0 + j + itemsOf (l.take j) : Nat) : Int) ∧ OwnVB S 57 3 wr B a n c (marksV j0 (l.take j) ++ l.drop j) ∧ Inside B S w wr) (fun _ i _ => n - (intOf i).toNat)
  case atStart => exact ⟨0, Nat.zero_le _, rfl, by simp [itemsOf], by simpa [marksV] using H.out, Inside.refl _ _ _⟩
  case round =>
    obtain ⟨j, hj, rfl, rfl, hown, hg⟩ := hrel
    by_cases hlt : j < n
    · obtain ⟨x, hx⟩ : ∃ x, l[j]? = some x := ⟨_, List.getElem?_eq_getElem (by rw [hln.out]; exact hlt)⟩
      have hst := itemsOf_at hx
      have hle := itemsOf_le l (j + 1)
      have hpre : (marksV j0 (l.take j)).length = j := by rw [marksV_len, List.length_take, hln.out]; omega
      rw [drop_at hx] at hown
      have hmid := get_mid _ j hpre x (l.drop (j + 1))
      obtain ⟨q, hq⟩ : ∃ q : Nat, q = j0 + j + itemsOf (l.take j) := ⟨_, rfl⟩
      have hqb : q ≤ 200000000000 := by omega
      have hnext : j0 + (j + 1) + itemsOf (l.take (j + 1)) = q + 1 + x.items.length := by omega
      have hxl : x.items.length ≤ 1000000000 := by omega
      rw [← hq]
      obtain ⟨hs, h1, h2, hL⟩ := hown
      obtain ⟨g, e, _, _⟩ := h1.head (by omega)
      subst e
      have hp := OwnVB.putNum ⟨hs, h1, h2, hL⟩ hmid (q : Int)
      rw [set_mid _ j hpre] at hp
      have hf0 := h1.2.frozenAt (j * 2)
      obtain ⟨u0, hu0⟩ := row_cell h1.2 (k := j * 2) (by omega)
      obtain ⟨hs2, k1, k2, kL⟩ := hp.1
      have hjv : j < hs2.length := by rw [k2.1]; simp; omega
      have hmid2 := get_mid _ j hpre (⟨(q : Int), x.items⟩ : Vl) (l.drop (j + 1))
      have hv := List.getElem?_eq_getElem hjv
      obtain ⟨v, hvv⟩ : ∃ v, v = hs2[j] := ⟨_, rfl⟩
      rw [← hvv] at hv
      obtain ⟨vn, vp, vm, vc⟩ := v
      obtain ⟨e1, ho, _⟩ := k2.2.1 j _ _ hv hmid2
      dsimp only at ho
      have hc1 := (k1.items Vh.enc_len).at_ (j := j) (by omega)
      obtain ⟨b', o', g', eb, hg', hcell⟩ := hc1
      cases eb
      rw [hv] at hg'
      cases hg'
      have hhdr := hcell 1 _ rfl
      dsimp only at hhdr
      have hvm : vm = x.items.length := by rw [← ho.len]
      subst hvm
      have HMK := Lib.hid (markIntS_any B vp x.items.length vc (q + 1) x.items _ ho (by omega) (by omega))
      have HIN := Lib.hid (hg.trans hp.2)
      have HOV := Lib.hid (fun (w' : World) (y : List Int) => OwnVB.over (w' := w') (y := y) k1 k2 kL hmid2 hv)
      have HX := Lib.hid hx
      have HPRE := Lib.hid hpre
      have HQ := Lib.hid hq
      have HN := Lib.hid hnext
      clear hx hpre hmid hmid2 h1 h2 hL hp k1 k2 kL hv hvv e1 ho hcell hg hq hst hnext
      simp only [Nat.zero_add] at hhdr
      go_wp2_with fail
      refine HMK.out.mono ?_
      rintro e w2 ⟨rfl, ho2, hg2⟩
      obtain ⟨k3, hi3⟩ := HOV.out _ _ hg2 ho2
      rw [set_mid _ j HPRE.out] at k3
      have HOW := Lib.hid k3
      have HIN2 := Lib.hid (HIN.out.trans hi3)
      clear k3 hi3 ho2 hg2 HOV HMK
      go_wp2_with fail
      go_roundw
      case rel =>
        refine ⟨j + 1, by omega, by go_num, ?_, ?_, HIN2.out⟩
        · rw [HN.out]
          congr 1
        · rw [marksV_take j0 HX.out, List.append_assoc, ← HQ.out]
          exact HOW.out
      case measure => simp [intOf]; omega
    · obtain rfl : j = n := by omega
      have hall : l.take j = l := List.take_of_length_le (by rw [hln.out]; omega)
      have hnone : l.drop j = [] := List.drop_eq_nil_of_le (by rw [hln.out]; omega)
      rw [hall, hnone, List.append_nil] at hown
      rw [hall]
      have HW := Lib.hid hown
      have HG := Lib.hid hg
      clear hown hg hall hnone
      go_wp2_with fail
      go_ret
      exact ⟨rfl, HW.out, HG.out⟩
set_option maxHeartbeats 2000000 in
set_option maxRecDepth 100000 in
theorem heldExtS_any (a : Option Addr) (n c j0 : Nat) (l : List Vl) (w : World) (h : Vals w a n (marksV j0 l)) (h0 : j0 ≤ 100000000000) (hn : n ≤ 1000000000) (hit : itemsOf l ≤ 1000000000) :
    Calls Try.prog 41 #[.slice a n c, .int .i64 j0] w (Told (.int .i64 ((j0 + n + itemsOf l : Nat) : Int)) w) := by
  have H := Lib.hid h
  have hln : Hid (l.length = n) := Lib.hid (by rw [← h.len, marksV_len])
  clear h
  go_enter Try.func41, Try.ntmps41
  go_wp2_with fail
  go_loopw [1, 5] (fun q i wr => ∃ j : Nat, j ≤ n ∧ i = .int .i64 j ∧ q = .int .i64 ((j0 + j + itemsOf (l.take j) : Nat) : Int) ∧ Below w.heap.size w wr) (fun _ i _ => n - (intOf i).toNat)
  case atStart => exact ⟨0, Nat.zero_le _, rfl, by simp [itemsOf], Below.refl _ _⟩
  case round =>
    obtain ⟨j, hj, rfl, rfl, hb⟩ := hrel
    have HB := Lib.hid hb
    clear hb
    by_cases hlt : j < n
    · obtain ⟨x, hx⟩ : ∃ x, l[j]? = some x := ⟨_, List.getElem?_eq_getElem (by rw [hln.out]; exact hlt)⟩
      have hst := itemsOf_at hx
      have hle := itemsOf_le l (j + 1)
      have hmk := marksV_at j0 hx
      obtain ⟨q, hq⟩ : ∃ q : Nat, q = j0 + j + itemsOf (l.take j) := ⟨_, rfl⟩
      have hnext : j0 + (j + 1) + itemsOf (l.take (j + 1)) = q + 1 + x.items.length := by omega
      have hqb : q ≤ 200000000000 := by omega
      have hxl : x.items.length ≤ 1000000000 := by omega
      rw [← hq] at hmk ⊢
      obtain ⟨b, o, p, m, d, k, y, rfl, hy, hc0, hc1, hN, hr⟩ := (H.out.same HB.out).at_ hlt
      rw [hmk] at hy
      cases hy
      have hmx : m = x.items.length := by rw [← hN.len, marksIntS_len]
      subst hmx
      have HH := Lib.hid (heldIntS_any p x.items.length d (q + 1) wr hN (by omega) (by omega))
      have HNX := Lib.hid hnext
      clear hx hst hmk hq hN hnext
      go_wp2_with fail
      refine HH.out.mono ?_
      rintro e w2 ⟨rfl, hb2⟩
      have HB2 := Lib.hid (HB.out.trans (hb2.mono HB.out.size))
      clear hb2 hc0 hc1 HH
      go_wp2_with fail
      go_roundw
      case rel => exact ⟨j + 1, by omega, by go_num, by rw [HNX.out]; congr 1, HB2.out⟩
      case measure => simp [intOf]; omega
    · obtain rfl : j = n := by omega
      have hall : l.take j = l := List.take_of_length_le (by rw [hln.out]; omega)
      rw [hall]
      clear hall
      go_wp2_with fail
      go_ret
      exact ⟨rfl, HB.out⟩
end Go.Proofs.Ytnjjfagokbbelaa
namespace Go.Proofs.Ytnjjfagokbbelaa
open Go.ChangeShapes Go.WideShapes Go.ChangeAt Go.RowKit
set_option linter.unusedVariables false

theorem inR_any (n l h : Int) (w : World) :
    Calls Try.prog 70 #[.int .i64 n, .int .i64 l, .int .i64 h] w fun e w' => e = .returned (.bool (decide (l ≤ n ∧ n ≤ h))) ∧ w = w' := by
  by_cases h1 : l ≤ n <;> by_cases h2 : n ≤ h <;> (go_enter Try.func70, Try.ntmps70; go_wp2; go_ret; exact ⟨by simp [h1, h2], rfl⟩)
theorem l1R_any (n l h : Int) (w : World) :
    Calls Try.prog 98 #[.int .i64 n, .int .i64 l, .int .i64 h] w fun e w' => e = .returned (.bool (decide (l ≤ n ∧ n ≤ h))) ∧ w = w' := by
  by_cases h1 : l ≤ n <;> by_cases h2 : n ≤ h <;> (go_enter Try.func98, Try.ntmps98; go_wp2; go_ret; exact ⟨by simp [h1, h2], rfl⟩)

/-- A kind's name. -/
def nameOf (k : Int) : List UInt8 := if k = 1 then [110, 117, 109] else if k = 2 then [116, 101, 120, 116] else if k = 3 then [108, 105, 115, 116] else []
/-- A kind's greatest Max. -/
def mostOf (k : Int) : Int := if k = 1 then 99 else if k = 2 then 5 else if k = 3 then 5 else 0
/-- The value that stands for a kind. -/
def typeVal (k : Int) : Value := if k = 1 then .iface 112 (.agg #[]) else if k = 2 then .iface 113 (.agg #[]) else if k = 3 then .iface 115 (.agg #[]) else .iface 123 (.agg #[])

set_option maxRecDepth 100000 in
theorem typeOf_any (k : Int) (w : World) : Calls Try.prog 100 #[.int .i64 k] w fun e w' => e = .returned (typeVal k) ∧ w = w' := by
  by_cases h1 : k = 1
  · subst h1
    go_enter Try.func100, Try.ntmps100
    go_wp2
    go_ret
    exact ⟨rfl, rfl⟩
  · by_cases h2 : k = 2
    · subst h2
      go_enter Try.func100, Try.ntmps100
      go_wp2
      go_ret
      exact ⟨rfl, rfl⟩
    · by_cases h3 : k = 3
      · subst h3
        go_enter Try.func100, Try.ntmps100
        go_wp2
        go_ret
        exact ⟨rfl, rfl⟩
      · have e1 : (k == 1) = false := by simpa using h1
        have e2 : (k == 2) = false := by simpa using h2
        have e3 : (k == 3) = false := by simpa using h3
        go_enter Try.func100, Try.ntmps100
        go_wp2
        go_ret
        exact ⟨by simp [typeVal, h1, h2, h3], rfl⟩

end Go.Proofs.Ytnjjfagokbbelaa
namespace Go.Proofs.Ytnjjfagokbbelaa
open Go.ChangeShapes Go.WideShapes Go.ChangeAt Go.RowKit
set_option linter.unusedVariables false

theorem beq_dec (x y : Int) : (x == y) = decide (x = y) := by by_cases h : x = y <;> simp [h]
/-- The condition of a field behind the fields l looks back at a number that is there always, and at a value that it can have. -/
def condOk (l : List Fd) (x : Fd) : Bool :=
  if x.cond = -1 then decide (x.is = 0)
  else decide (0 ≤ x.cond ∧ x.cond ≤ (l.length : Int) - 1) && (match l[x.cond.toNat]? with
    | some g => decide (g.kind = 1) && decide (g.cond = -1) && decide (0 ≤ x.is ∧ x.is ≤ g.max)
    | none => false)
def fieldOk (l : List Fd) (x : Fd) : Bool := decide (1 ≤ x.max ∧ x.max ≤ mostOf x.kind) && condOk l x
/-- The first j fields are as they must be. -/
def okTo (l : List Fd) (j : Nat) : Prop := ∀ i x, i < j → l[i]? = some x → fieldOk (l.take i) x = true
def IsFmt (l : List Fd) : Prop := (1 ≤ l.length ∧ l.length ≤ 6) ∧ okTo l l.length
noncomputable def isFmt (l : List Fd) : Bool := @decide (IsFmt l) (Classical.propDecidable _)

end Go.Proofs.Ytnjjfagokbbelaa
