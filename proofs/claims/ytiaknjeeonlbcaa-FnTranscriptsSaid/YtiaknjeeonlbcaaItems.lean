/- Slices of structs: what a walk is told of one that is read, and of one that the call itself has made; 'enc' says which cells an element has, s how many. No function of the program is spoken of. -/
import Derived.Test.YtiaknjeeonlbcaaMem
namespace Go.Proofs.Ytiaknjeeonlbcaa
open Go.ChangeShapes Go.WideShapes Go.ChangeAt Go.RowKit
set_option linter.unusedVariables false

theorem addr_zero (g k : Nat) : (⟨g, 0, none⟩ : Addr).add k = ⟨g, k, none⟩ := by
  unfold Addr.add
  by_cases h : k = 0 <;> simp [h]
theorem block_cell {w : World} {g : Nat} {cs : Array Value} {t : TypeId} (h : w.heap[g]? = some (.cells cs t (0, 0))) (k : Nat) : w.cell? ⟨g, k, none⟩ = cs[k]? := by simp [World.cell?, h]
theorem block_frozen {w : World} {g : Nat} {cs : Array Value} {t : TypeId} (h : w.heap[g]? = some (.cells cs t (0, 0))) (k : Nat) : w.frozen? ⟨g, k, none⟩ = false := by simp [World.frozen?, h]

/-- The cells of the elements, one behind the other. -/
def flatOf {α : Type} (enc : α → List Value) (l : List α) : List Value := l.flatMap enc
section
variable {α : Type} {enc : α → List Value} {s : Nat}
theorem flatOf_len (hs : ∀ x, (enc x).length = s) : ∀ l : List α, (flatOf enc l).length = l.length * s
  | [] => by simp [flatOf]
  | x :: t => by
    have := flatOf_len hs t
    unfold flatOf at this ⊢
    rw [List.flatMap_cons, List.length_append, hs, this, List.length_cons, Nat.succ_mul]
    omega
theorem flatOf_app (l l' : List α) : flatOf enc (l ++ l') = flatOf enc l ++ flatOf enc l' := by simp [flatOf]
theorem flatOf_at (hs : ∀ x, (enc x).length = s) : ∀ (l : List α) (j : Nat) (x : α) (i : Nat), l[j]? = some x → i < s → (flatOf enc l)[j * s + i]? = (enc x)[i]?
  | [], j, x, i, h, hi => by simp at h
  | y :: t, 0, x, i, h, hi => by
    simp only [List.getElem?_cons_zero, Option.some.injEq] at h
    subst h
    unfold flatOf
    rw [List.flatMap_cons, List.getElem?_append_left (by rw [hs]; omega)]
    simp
  | y :: t, j + 1, x, i, h, hi => by
    have h2 : t[j]? = some x := by simpa using h
    have ih := flatOf_at hs t j x i h2 hi
    unfold flatOf at ih ⊢
    rw [List.flatMap_cons, List.getElem?_append_right (by rw [hs, Nat.succ_mul]; omega), hs, ← ih]
    congr 1
    rw [Nat.succ_mul]
    omega

/-- From a on lie n elements: the list l. -/
structure Items (enc : α → List Value) (s : Nat) (w : World) (a : Option Addr) (n : Nat) (l : List α) : Prop where
  len : l.length = n
  fits : (n : Int) ≤ 9223372036854775807
  cell : ∀ j x, l[j]? = some x → ∃ b o, a = some ⟨b, o, none⟩ ∧ ∀ i v, (enc x)[i]? = some v → w.cell? ⟨b, o + j * s + i, none⟩ = some v
variable {w w' : World} {a : Option Addr} {n c B : Nat} {l : List α} {t : TypeId}
theorem Items.nothing : Items enc s w none 0 [] := ⟨rfl, by omega, fun j x h => by simp at h⟩
theorem Items.same (h : Items enc s w a n l) (hb : Below w.heap.size w w') : Items enc s w' a n l :=
  ⟨h.len, h.fits, fun j x hj => by
    obtain ⟨b, o, e, hx⟩ := h.cell j x hj
    exact ⟨b, o, e, fun i v hv => by rw [hb.cell (cell_in (hx i v hv))]; exact hx i v hv⟩⟩
theorem Items.at_ (h : Items enc s w a n l) {j : Nat} (hj : j < n) : ∃ b o x, a = some ⟨b, o, none⟩ ∧ l[j]? = some x ∧ ∀ i v, (enc x)[i]? = some v → w.cell? ⟨b, o + j * s + i, none⟩ = some v := by
  have hl : j < l.length := by rw [h.len]; exact hj
  obtain ⟨b, o, e, hx⟩ := h.cell j _ (List.getElem?_eq_getElem hl)
  exact ⟨b, o, _, e, List.getElem?_eq_getElem hl, hx⟩
theorem Items.take (h : Items enc s w a n l) (m : Nat) (hm : m ≤ n) : Items enc s w a m (l.take m) := by
  refine ⟨by rw [List.length_take, h.len]; omega, by have := h.fits; omega, fun j x hj => h.cell j x ?_⟩
  rw [List.getElem?_take] at hj
  split at hj
  · exact hj
  · cases hj

/-- The slice is the call's own, in a block from B on; it holds l. -/
def OwnI (enc : α → List Value) (s : Nat) (t : TypeId) (w : World) (B : Nat) (a : Option Addr) (n c : Nat) (l : List α) : Prop :=
  l.length = n ∧ w.ownsRow B t s (.slice a n c) n (flatOf enc l)
theorem OwnI.len (h : OwnI enc s t w B a n c l) : l.length = n := h.1
theorem OwnI.row (h : OwnI enc s t w B a n c l) : w.ownsRow B t s (.slice a n c) n (flatOf enc l) := h.2
theorem OwnI.room (h : OwnI enc s t w B a n c l) : n ≤ c ∧ (c : Int) ≤ 9223372036854775807 := by
  rcases h.2.2 with ⟨h1, h2⟩ | ⟨g, cap, cur, h1, _, _, h2, h3, _⟩
  · injection h1 with h3 h4 h5
    subst h5
    subst h2
    exact ⟨Nat.le_refl _, by omega⟩
  · injection h1 with h4 h5 h6
    subst h6
    unfold maxLen at h3
    exact ⟨h2, by omega⟩
theorem OwnI.span (h : OwnI enc s t w B a n c l) : Span a B w.heap.size := by
  intro ad e
  subst e
  exact h.2.lt ad.block rfl
theorem OwnI.head (h : OwnI enc s t w B a n c l) (hn : 0 < n) : ∃ g, a = some ⟨g, 0, none⟩ ∧ B ≤ g ∧ g < w.heap.size := by
  obtain ⟨g, cap, e, h1, h2⟩ := h.2.form hn
  injection e with e1 e2 e3
  exact ⟨g, e1, h1, h2⟩
theorem OwnI.items (hs : ∀ x, (enc x).length = s) (h : OwnI enc s t w B a n c l) : Items enc s w a n l := by
  refine ⟨h.1, by have := h.room; omega, fun j x hj => ?_⟩
  have hjl : j < l.length := by
    rcases Nat.lt_or_ge j l.length with h1 | h1
    · exact h1
    · rw [List.getElem?_eq_none h1] at hj; cases hj
  obtain ⟨g, e, _, _⟩ := h.head (by have := h.1; omega)
  subst e
  refine ⟨g, 0, rfl, fun i v hv => ?_⟩
  have his : i < s := by
    rcases Nat.lt_or_ge i s with h1 | h1
    · exact h1
    · rw [List.getElem?_eq_none (by rw [hs]; exact h1)] at hv; cases hv
  have h2 := h.2.cells (g := g) rfl (j * s + i) v (by rw [flatOf_at hs l j x i hj his]; exact hv)
  rw [Nat.zero_add]
  rw [addr_zero] at h2
  exact h2
theorem OwnI.same (h : OwnI enc s t w B a n c l) (hb : Below w.heap.size w w') : OwnI enc s t w' B a n c l := by
  cases a with
  | none => exact ⟨h.1, h.2.kept (grown_below hb none) (Or.inl rfl)⟩
  | some ad => exact ⟨h.1, h.2.kept (grown_below hb none) (Or.inr (by simp [Value.ownBlock]))⟩
/-- A write to a slice that lies in other blocks. -/
theorem OwnI.apart {b : Option Addr} {m d lo hi lo' hi' : Nat} (h : OwnI enc s t w B a n c l) (hg : w.grownBy w' (Value.ownBlock (.slice b m d))) (sp : Span a lo hi) (sp' : Span b lo' hi') (hd : hi ≤ lo' ∨ hi' ≤ lo) : OwnI enc s t w' B a n c l := by
  cases a with
  | none => exact ⟨h.1, h.2.kept hg (Or.inl rfl)⟩
  | some ad =>
    refine ⟨h.1, h.2.kept hg (Or.inr ?_)⟩
    have h1 := sp ad rfl
    cases b with
    | none => simp [Value.ownBlock]
    | some be =>
      have h2 := sp' be rfl
      simp only [Value.ownBlock, ne_eq, Option.some.injEq]
      omega
theorem OwnI.lower (h : OwnI enc s t w B a n c l) {B' : Nat} (hB : B' ≤ B) : OwnI enc s t w B' a n c l := by
  refine ⟨h.1, h.2.1, ?_⟩
  rcases h.2.2 with h1 | ⟨g, cap, cur, h1, h2, h3⟩
  · exact Or.inl h1
  · exact Or.inr ⟨g, cap, cur, h1, Nat.le_trans hB h2, h3⟩
theorem OwnI.nil : OwnI enc s t w B none 0 0 [] := ⟨rfl, World.ownsRow_nil _ _ _ _⟩
theorem OwnI.alloc (h : OwnI enc s t w B a n c l) (o : Obj) : OwnI enc s t (w.alloc o) B a n c l := ⟨h.1, h.2.alloc o⟩
end
/-- What a function leaves that makes a slice of structs. -/
def MadeI {α : Type} (enc : α → List Value) (s : Nat) (t : TypeId) (B : Nat) (l : List α) (w : World) (e : Ending) (w' : World) : Prop :=
  ∃ a n c, e = .returned (.slice a n c) ∧ OwnI enc s t w' B a n c l ∧ Below B w w'

/-- What a row owns, four cells later. -/
theorem stored4 {w : World} {B : Nat} {t : TypeId} {s g n cap : Nat} {xs : List Value} (h : w.ownsRow B t s (.slice (some ⟨g, 0, none⟩) n cap) n xs) (j0 j1 j2 j3 : Nat) (v0 v1 v2 v3 : Value) :
    ((((w.setCell ⟨g, j0, none⟩ v0).setCell ⟨g, j1, none⟩ v1).setCell ⟨g, j2, none⟩ v2).setCell ⟨g, j3, none⟩ v3).ownsRow B t s (.slice (some ⟨g, 0, none⟩) n cap) n ((((xs.set j0 v0).set j1 v1).set j2 v2).set j3 v3) ∧
    w.grownBy ((((w.setCell ⟨g, j0, none⟩ v0).setCell ⟨g, j1, none⟩ v1).setCell ⟨g, j2, none⟩ v2).setCell ⟨g, j3, none⟩ v3) (some g) := by
  have h0 := h.stored j0 v0
  have h1 := h0.1.stored j1 v1
  have h2 := h1.1.stored j2 v2
  have h3 := h2.1.stored j3 v3
  exact ⟨h3.1, h0.2.trans (h1.2.trans (h2.2.trans h3.2))⟩

/-- Fields of messages. -/
structure Fd where
  kind : Int
  max : Int
  cond : Int
  is : Int
def Fd.enc (x : Fd) : List Value := [.int .i64 x.kind, .int .i64 x.max, .int .i64 x.cond, .int .i64 x.is]
def Fd.val (x : Fd) : Value := .agg #[.int .i64 x.kind, .int .i64 x.max, .int .i64 x.cond, .int .i64 x.is]
theorem Fd.enc_len (x : Fd) : x.enc.length = 4 := rfl
abbrev Fds := Items Fd.enc 4
abbrev OwnF := OwnI Fd.enc 4
/-- The element's four cells. -/
theorem fds_at {w : World} {a : Option Addr} {n : Nat} {l : List Fd} (h : Fds w a n l) {j : Nat} (hj : j < n) : ∃ b o x, a = some ⟨b, o, none⟩ ∧ l[j]? = some x ∧
    w.cell? ⟨b, o + j * 4, none⟩ = some (.int .i64 x.kind) ∧ w.cell? ⟨b, o + j * 4 + 1, none⟩ = some (.int .i64 x.max) ∧ w.cell? ⟨b, o + j * 4 + 2, none⟩ = some (.int .i64 x.cond) ∧ w.cell? ⟨b, o + j * 4 + 3, none⟩ = some (.int .i64 x.is) := by
  obtain ⟨b, o, x, e, hx, hc⟩ := h.at_ hj
  exact ⟨b, o, x, e, hx, by simpa using hc 0 _ rfl, hc 1 _ rfl, hc 2 _ rfl, hc 3 _ rfl⟩
end Go.Proofs.Ytiaknjeeonlbcaa
