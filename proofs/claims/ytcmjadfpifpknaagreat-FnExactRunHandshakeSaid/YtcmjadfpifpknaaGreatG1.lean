/- Slices of integers: what a walk is told of one that is read, and of one that the call itself has made. No function of the program is spoken of. Slices of structs: what a walk is told of one that is read, and of one that the call itself has made; 'enc' says which cells an element has, s how many. No function of the program is spoken of. The helpers of the exact laws at lists of fields: copied, compared. The kinds of fields, and the greatest Max of each; being in a range. -/
import Derived.Test.YtcmjadfpifpknaaGreatRows
import Derived.WalkKit
import Derived.ProofKit
import Derived.OpenShut
import Derived.Lib.Hide
import Derived.Maps.AppendAt
import Derived.Deep.AppendLies
import Derived.OwnWalk
import Derived.Laws.OwnMore
import Derived.Lib.SmallJoins
import Derived.Deep.QuietTactic
import Derived.BigQuiet
import Derived.RegionTactic
import Derived.StillTailTactics
import Derived.Handy
namespace Go.Proofs.YtcmjadfpifpknaaGreat
open Go.ChangeShapes Go.WideShapes Go.ChangeAt Go.RowKit
set_option linter.unusedVariables false

theorem addr_block (ad : Addr) (j : Nat) : (ad.add j).block = ad.block := by unfold Addr.add; split <;> rfl
theorem addr_add (ad : Addr) (i j : Nat) : (ad.add i).add j = ad.add (i + j) := by
  cases ad
  unfold Addr.add
  by_cases hi : i = 0 <;> by_cases hj : j = 0 <;> simp [hi, hj, Nat.add_assoc]
theorem cell_in {w : World} {p : Addr} {v : Value} (h : w.cell? p = some v) : p.block < w.heap.size := by
  rcases Nat.lt_or_ge p.block w.heap.size with h1 | h1
  · exact h1
  · unfold World.cell? at h
    rw [Array.getElem?_eq_none h1] at h
    cases h

theorem cell_stay {w w' : World} {p : Addr} {v : Value} (h : w.cell? p = some v) (hb : Below w.heap.size w w') : w'.cell? p = some v := by rw [hb.cell (cell_in h)]; exact h
/-- From a on lie n integers of kind k: the list l. -/
structure Nums (k : IntKind) (w : World) (a : Option Addr) (n : Nat) (l : List Int) : Prop where
  len : l.length = n
  fits : (n : Int) ≤ 9223372036854775807
  cell : ∀ j, j < n → ∃ ad, a = some ad ∧ w.cell? (ad.add j) = some (.int k (l.getD j 0))
theorem Nums.none {k : IntKind} {w : World} {a : Option Addr} : Nums k w a 0 [] := ⟨rfl, by omega, fun j h => absurd h (by omega)⟩
theorem Nums.same {k : IntKind} {w w' : World} {a : Option Addr} {n : Nat} {l : List Int} (h : Nums k w a n l) (hb : Below w.heap.size w w') : Nums k w' a n l :=
  ⟨h.len, h.fits, fun j hj => by
    obtain ⟨ad, e, hx⟩ := h.cell j hj
    exact ⟨ad, e, by rw [hb.cell (cell_in hx)]; exact hx⟩⟩
theorem Nums.at_ {k : IntKind} {w : World} {a : Option Addr} {n : Nat} {l : List Int} (h : Nums k w a n l) {j : Nat} (hj : j < n) : ∃ ad x, a = some ad ∧ l[j]? = some x ∧ w.cell? (ad.add j) = some (.int k x) := by
  obtain ⟨ad, e, hx⟩ := h.cell j hj
  have hl : j < l.length := by rw [h.len]; exact hj
  exact ⟨ad, _, e, by rw [List.getD, List.getElem?_eq_getElem hl]; rfl, hx⟩
/-- The elements of a list that lie from place i on, m of them. -/
theorem Nums.sub {k : IntKind} {w : World} {a : Option Addr} {n : Nat} {l : List Int} (h : Nums k w a n l) (i m : Nat) (hi : i + m ≤ n) {b : Option Addr} (hb : 0 < m → ∀ ad, a = some ad → b = some (ad.add i)) : Nums k w b m ((l.drop i).take m) := by
  refine ⟨by rw [List.length_take, List.length_drop, h.len]; omega, by have := h.fits; omega, fun j hj => ?_⟩
  obtain ⟨ad, e, hx⟩ := h.cell (i + j) (by omega)
  refine ⟨ad.add i, hb (by omega) ad e, ?_⟩
  rw [addr_add, hx]
  simp [List.getD, hj]

/-- The slice is the call's own, in a block from B on; it holds l. -/
def Own (k : IntKind) (t : TypeId) (w : World) (B : Nat) (a : Option Addr) (n c : Nat) (l : List Int) : Prop :=
  l.length = n ∧ w.ownsRow B t 1 (.slice a n c) n (l.map (Value.int k))
/-- The blocks in which a slice may lie. -/
def Span (a : Option Addr) (lo hi : Nat) : Prop := ∀ ad, a = some ad → lo ≤ ad.block ∧ ad.block < hi
theorem Span.none {lo hi : Nat} : Span none lo hi := fun _ h => by cases h
theorem Span.mono {a : Option Addr} {lo hi lo' hi' : Nat} (h : Span a lo hi) (h0 : lo' ≤ lo) (h1 : hi ≤ hi') : Span a lo' hi' := fun ad e => ⟨Nat.le_trans h0 (h ad e).1, Nat.lt_of_lt_of_le (h ad e).2 h1⟩

section
variable {k : IntKind} {t : TypeId} {w w' : World} {B n c : Nat} {a : Option Addr} {l : List Int}
theorem Own.len (h : Own k t w B a n c l) : l.length = n := h.1
theorem Own.row (h : Own k t w B a n c l) : w.ownsRow B t 1 (.slice a n c) n (l.map (Value.int k)) := h.2
theorem Own.room (h : Own k t w B a n c l) : n ≤ c ∧ (c : Int) ≤ 9223372036854775807 := by
  rcases h.2.2 with ⟨h1, h2⟩ | ⟨g, cap, cur, h1, _, _, h2, h3, _⟩
  · injection h1 with h3 h4 h5
    subst h5
    subst h2
    exact ⟨Nat.le_refl _, by omega⟩
  · injection h1 with h4 h5 h6
    subst h6
    unfold maxLen at h3
    exact ⟨h2, by omega⟩
theorem Own.span (h : Own k t w B a n c l) : Span a B w.heap.size := by
  intro ad e
  subst e
  exact h.2.lt ad.block rfl
theorem Own.head (h : Own k t w B a n c l) (hn : 0 < n) : ∃ g, a = some ⟨g, 0, none⟩ ∧ B ≤ g ∧ g < w.heap.size := by
  obtain ⟨g, cap, e, h1, h2⟩ := h.2.form hn
  injection e with e1 e2 e3
  exact ⟨g, e1, h1, h2⟩
theorem Own.nums (h : Own k t w B a n c l) : Nums k w a n l := by
  refine ⟨h.1, by have := h.room; omega, fun j hj => ?_⟩
  obtain ⟨g, e, _, _⟩ := h.head (by omega)
  subst e
  have hl : j < l.length := by rw [h.1]; exact hj
  refine ⟨_, rfl, h.2.cells (g := g) rfl j _ ?_⟩
  rw [List.getElem?_map, List.getElem?_eq_getElem hl]
  simp [List.getD, List.getElem?_eq_getElem hl]
theorem grown_below (hb : Below w.heap.size w w') (row : Option Nat) : w.grownBy w' row := ⟨hb.os, hb.tape, hb.output, hb.size, fun i hi _ => hb.block i hi⟩
theorem Own.same (h : Own k t w B a n c l) (hb : Below w.heap.size w w') : Own k t w' B a n c l := by
  cases a with
  | none => exact ⟨h.1, h.2.kept (grown_below hb none) (Or.inl rfl)⟩
  | some ad => exact ⟨h.1, h.2.kept (grown_below hb none) (Or.inr (by simp [Value.ownBlock]))⟩
/-- A write to a slice that lies in other blocks. -/
theorem Own.apart {b : Option Addr} {m d lo hi lo' hi' : Nat} (h : Own k t w B a n c l) (hg : w.grownBy w' (Value.ownBlock (.slice b m d))) (s : Span a lo hi) (s' : Span b lo' hi') (hd : hi ≤ lo' ∨ hi' ≤ lo) : Own k t w' B a n c l := by
  cases a with
  | none => exact ⟨h.1, h.2.kept hg (Or.inl rfl)⟩
  | some ad =>
    refine ⟨h.1, h.2.kept hg (Or.inr ?_)⟩
    have h1 := s ad rfl
    cases b with
    | none => simp [Value.ownBlock]
    | some be =>
      have h2 := s' be rfl
      simp only [Value.ownBlock, ne_eq, Option.some.injEq]
      omega
theorem Own.lower (h : Own k t w B a n c l) {B' : Nat} (hB : B' ≤ B) : Own k t w B' a n c l := by
  refine ⟨h.1, h.2.1, ?_⟩
  rcases h.2.2 with h1 | ⟨g, cap, cur, h1, h2, h3⟩
  · exact Or.inl h1
  · exact Or.inr ⟨g, cap, cur, h1, Nat.le_trans hB h2, h3⟩
theorem Own.nil : Own k t w B none 0 0 [] := ⟨rfl, World.ownsRow_nil _ _ _ _⟩
theorem Own.empty (hB : B ≤ w.heap.size) : Own k t (w.alloc (.cells #[] t)) B (some ⟨w.heap.size, 0, none⟩) 0 0 [] :=
  ⟨rfl, World.ownsRow_lit w #[] 0 hB (by unfold maxLen; omega) rfl⟩
theorem Own.alloc (h : Own k t w B a n c l) (o : Obj) : Own k t (w.alloc o) B a n c l := ⟨h.1, h.2.alloc o⟩
theorem alloc_same (w : World) (o : Obj) : Below w.heap.size w (w.alloc o) := (Below.refl _ w).alloc (Nat.le_refl _) o
theorem drewN_same (w : World) (q : Nat) : Below w.heap.size w (w.drewN q) := ⟨rfl, rfl, rfl, Nat.le_refl _, fun _ _ => rfl⟩
theorem nums_new (w : World) (k : IntKind) (x : Int) (t : TypeId) : Nums k (w.alloc (.cells #[.int k x] t)) (some ⟨w.heap.size, 0, none⟩) 1 [x] :=
  ⟨rfl, by omega, fun j hj => ⟨_, rfl, by
    obtain rfl : j = 0 := by omega
    exact cell_one_new w (.int k x) t 0 _ rfl⟩⟩
theorem grown_to {b : Option Addr} {m d : Nat} (hg : w.grownBy w' (Value.ownBlock (.slice b m d))) {B0 lo hi : Nat} {w0 : World} (h : Below B0 w0 w) (s : Span b lo hi) (h0 : B0 ≤ lo) (h1 : B0 ≤ w.heap.size) : Below B0 w0 w' := by
  refine h.grown hg h1 fun j e => ?_
  cases b with
  | none => simp [Value.ownBlock] at e
  | some be =>
    have := s be rfl
    simp only [Value.ownBlock, Option.some.injEq] at e
    omega
end

/-- What a function leaves that makes a slice of integers. -/
def Made (k : IntKind) (t : TypeId) (B : Nat) (l : List Int) (w : World) (e : Ending) (w' : World) : Prop :=
  ∃ a n c, e = .returned (.slice a n c) ∧ Own k t w' B a n c l ∧ Below B w w'
/-- What a function leaves that only reads, or makes memory that it does not hand back. -/
def Told (v : Value) (w : World) (e : Ending) (w' : World) : Prop := e = .returned v ∧ Below w.heap.size w w'

section
variable {P : Program} (w : World)
theorem run_app_nothing (B : Nat) (t ty e : TypeId) (i : TypeInfo) (ht : P.underlying t = some (.slice e)) (hi : P.info? e = some i) {v : Value} {n : Nat} {xs : List Value} (hown : w.ownsRow B e 1 v n xs) (d : Nat) :
    (Builtin.append_ #[t, t] ty #[v, .slice none 0 d]).run P w = .ok v w := by
  rcases hown.2 with ⟨rfl, rfl⟩ | ⟨g, cap, cur, rfl, _, _, hle, _⟩
  · simp [Builtin.append_, run_underlying ht, sizeOf, typeInfo, hi, Builtin.lenOf, Builtin.firstCells]
  · simp [Builtin.append_, run_underlying ht, sizeOf, typeInfo, hi, Builtin.lenOf, Builtin.firstCells, hle, storeCells]
/-- Integers are appended to a slice of the call's own, wherever they lie. -/
theorem run_app {k : IntKind} (t ty e : TypeId) (i : TypeInfo) (z : Value) (bytes : Nat) (ht : P.underlying t = some (.slice e)) (hi : P.info? e = some i) (hz : i.zero = some z) (hsize : i.size = 1) (hby : i.bytes = bytes) (hzs : z.cells.size = 1)
    {B n c m d : Nat} {a b : Option Addr} {l l' : List Int} (ho : Own k e w B a n c l) (hs : Nums k w b m l') (hbytes : (n + m) * bytes ≤ 140737488355328) (h63 : n + m ≤ maxLen) (hB : B ≤ w.heap.size) :
    ∃ a' c' w', (Builtin.append_ #[t, t] ty #[.slice a n c, .slice b m d]).run P w = .ok (.slice a' (n + m) c') w' ∧ Own k e w' B a' (n + m) c' (l ++ l') ∧ Below B w w' := by
  have hsp := ho.span
  rcases b with _ | ad
  · obtain rfl : m = 0 := by
      rcases Nat.eq_zero_or_pos m with h0 | h0
      · exact h0
      · obtain ⟨ad, h, _⟩ := hs.cell 0 h0
        cases h
    obtain rfl : l' = [] := List.eq_nil_of_length_eq_zero hs.len
    exact ⟨a, c, w, run_app_nothing w B t ty e i ht hi ho.2 d, by simpa using ho, Below.refl _ _⟩
  · obtain ⟨v', w', hr, h2, h3, _, _⟩ := run_append_own_at (P := P) w B t ty e i z 1 bytes ht hi hz hsize hby hzs (by omega) (.slice a n c) n (l.map (Value.int k)) ho.2 ad m d (l'.map (Value.int k)) (by simp [hs.len]) (fun j u hu => by
      have hj : j < m := by
        rcases Nat.lt_or_ge j m with h | h
        · exact h
        · rw [List.getElem?_eq_none (by simp [hs.len]; exact h)] at hu; cases hu
      obtain ⟨ad', e', hx⟩ := hs.cell j hj
      cases e'
      have hl : j < l'.length := by rw [hs.len]; exact hj
      rw [List.getElem?_map, List.getElem?_eq_getElem hl] at hu
      cases hu
      rw [hx]
      simp [List.getD, List.getElem?_eq_getElem hl]) (ints_oneCell k l') h63 hbytes hB
    rw [← List.map_append] at h2
    have hbw : Below B w w' := grown_to h3 (Below.refl B w) hsp (Nat.le_refl _) hB
    rcases h2.2 with ⟨rfl, hn⟩ | ⟨g, cap, cur, rfl, hrest⟩
    · exact ⟨none, 0, w', by rw [hn]; exact hr, by rw [hn] at h2 ⊢; exact ⟨by have := h2.1; simpa using this, h2⟩, hbw⟩
    · exact ⟨_, cap, w', hr, ⟨by have := ho.len; have := hs.len; simp; omega, h2⟩, hbw⟩
theorem wpl_app {ops : Array Oper} {rest : List Oper} {o : Oper} {act : Act} {Q : Exit → Act → World → Prop} (hgd : o.guard = none) (s x : Operand) (t : TypeId)
    (ho : o.op = .call { callee := .builtin .append, args := #[s, x], argTypes := #[t, t] })
    (k : IntKind) (e : TypeId) (i : TypeInfo) (z : Value) (bytes : Nat) (ht : P.underlying t = some (.slice e)) (hi : P.info? e = some i) (hz : i.zero = some z) (hsize : i.size = 1) (hby : i.bytes = bytes) (hzs : z.cells.size = 1)
    {B n c m d : Nat} {a b : Option Addr} {l l' : List Int} (hs : act.eval s = .slice a n c) (hown : Own k e w B a n c l) (hx : act.eval x = .slice b m d) (hnew : Nums k w b m l')
    (hb1 : 0 < bytes) (hbytes : (n + m) * bytes ≤ 140737488355328) (hB : B ≤ w.heap.size)
    (h : ∀ a' c' w', Own k e w' B a' (n + m) c' (l ++ l') → Below B w w' → wpList P ops Q rest (act.put o.dst (.slice a' (n + m) c')) w') : wpList P ops Q (o :: rest) act w := by
  refine wpList_plain hgd fun K hK => ?_
  have h63 : n + m ≤ maxLen := by
    have := Nat.mul_le_mul_left (n + m) hb1
    unfold maxLen
    omega
  obtain ⟨a', c', w', hr, h2, h3⟩ := run_app (P := P) (d := d) w t o.type e i z bytes ht hi hz hsize hby hzs hown hnew hbytes h63 hB
  unfold Oper.wp execOp
  simp only [ho, resolve, invoke, builtin, Sem.run_bind, Sem.run_pure, Result.andThen_ok, List.map_toArray, List.map_cons, List.map_nil, hs, hx, hr]
  exact hK _ _ (h a' c' w' h2 h3)
end
end Go.Proofs.YtcmjadfpifpknaaGreat
namespace Go.Proofs.YtcmjadfpifpknaaGreat
open Go.ChangeShapes Go.WideShapes Go.ChangeAt Go.RowKit
set_option linter.unusedVariables false

theorem addr_zero (g k : Nat) : (⟨g, 0, none⟩ : Addr).add k = ⟨g, k, none⟩ := by
  unfold Addr.add
  by_cases h : k = 0 <;> simp [h]
theorem block_cell {w : World} {g : Nat} {cs : Array Value} {t : TypeId} (h : w.heap[g]? = some (.cells cs t (0, 0))) (k : Nat) : w.cell? ⟨g, k, none⟩ = cs[k]? := by simp [World.cell?, h]
theorem block_frozen {w : World} {g : Nat} {cs : Array Value} {t : TypeId} (h : w.heap[g]? = some (.cells cs t (0, 0))) (k : Nat) : w.frozen? ⟨g, k, none⟩ = false := by simp [World.frozen?, h]

/-- The cells of the elements, one behind the other. -/
def flatOf {α : Type} (enc : α → List Value) (l : List α) : List Value := l.flatMap enc
section
variable {α : Type} {enc : α → List Value} {s : Nat}
theorem flatOf_len (hs : ∀ x, (enc x).length = s) : ∀ l : List α, (flatOf enc l).length = l.length * s
  | [] => by simp [flatOf]
  | x :: t => by
    have := flatOf_len hs t
    unfold flatOf at this ⊢
    rw [List.flatMap_cons, List.length_append, hs, this, List.length_cons, Nat.succ_mul]
    omega
theorem flatOf_app (l l' : List α) : flatOf enc (l ++ l') = flatOf enc l ++ flatOf enc l' := by simp [flatOf]
theorem flatOf_at (hs : ∀ x, (enc x).length = s) : ∀ (l : List α) (j : Nat) (x : α) (i : Nat), l[j]? = some x → i < s → (flatOf enc l)[j * s + i]? = (enc x)[i]?
  | [], j, x, i, h, hi => by simp at h
  | y :: t, 0, x, i, h, hi => by
    simp only [List.getElem?_cons_zero, Option.some.injEq] at h
    subst h
    unfold flatOf
    rw [List.flatMap_cons, List.getElem?_append_left (by rw [hs]; omega)]
    simp
  | y :: t, j + 1, x, i, h, hi => by
    have h2 : t[j]? = some x := by simpa using h
    have ih := flatOf_at hs t j x i h2 hi
    unfold flatOf at ih ⊢
    rw [List.flatMap_cons, List.getElem?_append_right (by rw [hs, Nat.succ_mul]; omega), hs, ← ih]
    congr 1
    rw [Nat.succ_mul]
    omega

/-- From a on lie n elements: the list l. -/
structure Items (enc : α → List Value) (s : Nat) (w : World) (a : Option Addr) (n : Nat) (l : List α) : Prop where
  len : l.length = n
  fits : (n : Int) ≤ 9223372036854775807
  cell : ∀ j x, l[j]? = some x → ∃ b o, a = some ⟨b, o, none⟩ ∧ ∀ i v, (enc x)[i]? = some v → w.cell? ⟨b, o + j * s + i, none⟩ = some v
variable {w w' : World} {a : Option Addr} {n c B : Nat} {l : List α} {t : TypeId}
theorem Items.nothing : Items enc s w none 0 [] := ⟨rfl, by omega, fun j x h => by simp at h⟩
theorem Items.same (h : Items enc s w a n l) (hb : Below w.heap.size w w') : Items enc s w' a n l :=
  ⟨h.len, h.fits, fun j x hj => by
    obtain ⟨b, o, e, hx⟩ := h.cell j x hj
    exact ⟨b, o, e, fun i v hv => by rw [hb.cell (cell_in (hx i v hv))]; exact hx i v hv⟩⟩
theorem Items.at_ (h : Items enc s w a n l) {j : Nat} (hj : j < n) : ∃ b o x, a = some ⟨b, o, none⟩ ∧ l[j]? = some x ∧ ∀ i v, (enc x)[i]? = some v → w.cell? ⟨b, o + j * s + i, none⟩ = some v := by
  have hl : j < l.length := by rw [h.len]; exact hj
  obtain ⟨b, o, e, hx⟩ := h.cell j _ (List.getElem?_eq_getElem hl)
  exact ⟨b, o, _, e, List.getElem?_eq_getElem hl, hx⟩
theorem Items.take (h : Items enc s w a n l) (m : Nat) (hm : m ≤ n) : Items enc s w a m (l.take m) := by
  refine ⟨by rw [List.length_take, h.len]; omega, by have := h.fits; omega, fun j x hj => h.cell j x ?_⟩
  rw [List.getElem?_take] at hj
  split at hj
  · exact hj
  · cases hj

/-- The slice is the call's own, in a block from B on; it holds l. -/
def OwnI (enc : α → List Value) (s : Nat) (t : TypeId) (w : World) (B : Nat) (a : Option Addr) (n c : Nat) (l : List α) : Prop :=
  l.length = n ∧ w.ownsRow B t s (.slice a n c) n (flatOf enc l)
theorem OwnI.len (h : OwnI enc s t w B a n c l) : l.length = n := h.1
theorem OwnI.row (h : OwnI enc s t w B a n c l) : w.ownsRow B t s (.slice a n c) n (flatOf enc l) := h.2
theorem OwnI.room (h : OwnI enc s t w B a n c l) : n ≤ c ∧ (c : Int) ≤ 9223372036854775807 := by
  rcases h.2.2 with ⟨h1, h2⟩ | ⟨g, cap, cur, h1, _, _, h2, h3, _⟩
  · injection h1 with h3 h4 h5
    subst h5
    subst h2
    exact ⟨Nat.le_refl _, by omega⟩
  · injection h1 with h4 h5 h6
    subst h6
    unfold maxLen at h3
    exact ⟨h2, by omega⟩
theorem OwnI.span (h : OwnI enc s t w B a n c l) : Span a B w.heap.size := by
  intro ad e
  subst e
  exact h.2.lt ad.block rfl
theorem OwnI.head (h : OwnI enc s t w B a n c l) (hn : 0 < n) : ∃ g, a = some ⟨g, 0, none⟩ ∧ B ≤ g ∧ g < w.heap.size := by
  obtain ⟨g, cap, e, h1, h2⟩ := h.2.form hn
  injection e with e1 e2 e3
  exact ⟨g, e1, h1, h2⟩
theorem OwnI.items (hs : ∀ x, (enc x).length = s) (h : OwnI enc s t w B a n c l) : Items enc s w a n l := by
  refine ⟨h.1, by have := h.room; omega, fun j x hj => ?_⟩
  have hjl : j < l.length := by
    rcases Nat.lt_or_ge j l.length with h1 | h1
    · exact h1
    · rw [List.getElem?_eq_none h1] at hj; cases hj
  obtain ⟨g, e, _, _⟩ := h.head (by have := h.1; omega)
  subst e
  refine ⟨g, 0, rfl, fun i v hv => ?_⟩
  have his : i < s := by
    rcases Nat.lt_or_ge i s with h1 | h1
    · exact h1
    · rw [List.getElem?_eq_none (by rw [hs]; exact h1)] at hv; cases hv
  have h2 := h.2.cells (g := g) rfl (j * s + i) v (by rw [flatOf_at hs l j x i hj his]; exact hv)
  rw [Nat.zero_add]
  rw [addr_zero] at h2
  exact h2
theorem OwnI.same (h : OwnI enc s t w B a n c l) (hb : Below w.heap.size w w') : OwnI enc s t w' B a n c l := by
  cases a with
  | none => exact ⟨h.1, h.2.kept (grown_below hb none) (Or.inl rfl)⟩
  | some ad => exact ⟨h.1, h.2.kept (grown_below hb none) (Or.inr (by simp [Value.ownBlock]))⟩
/-- A write to a slice that lies in other blocks. -/
theorem OwnI.apart {b : Option Addr} {m d lo hi lo' hi' : Nat} (h : OwnI enc s t w B a n c l) (hg : w.grownBy w' (Value.ownBlock (.slice b m d))) (sp : Span a lo hi) (sp' : Span b lo' hi') (hd : hi ≤ lo' ∨ hi' ≤ lo) : OwnI enc s t w' B a n c l := by
  cases a with
  | none => exact ⟨h.1, h.2.kept hg (Or.inl rfl)⟩
  | some ad =>
    refine ⟨h.1, h.2.kept hg (Or.inr ?_)⟩
    have h1 := sp ad rfl
    cases b with
    | none => simp [Value.ownBlock]
    | some be =>
      have h2 := sp' be rfl
      simp only [Value.ownBlock, ne_eq, Option.some.injEq]
      omega
theorem OwnI.lower (h : OwnI enc s t w B a n c l) {B' : Nat} (hB : B' ≤ B) : OwnI enc s t w B' a n c l := by
  refine ⟨h.1, h.2.1, ?_⟩
  rcases h.2.2 with h1 | ⟨g, cap, cur, h1, h2, h3⟩
  · exact Or.inl h1
  · exact Or.inr ⟨g, cap, cur, h1, Nat.le_trans hB h2, h3⟩
theorem OwnI.nil : OwnI enc s t w B none 0 0 [] := ⟨rfl, World.ownsRow_nil _ _ _ _⟩
theorem OwnI.alloc (h : OwnI enc s t w B a n c l) (o : Obj) : OwnI enc s t (w.alloc o) B a n c l := ⟨h.1, h.2.alloc o⟩
end
/-- What a function leaves that makes a slice of structs. -/
def MadeI {α : Type} (enc : α → List Value) (s : Nat) (t : TypeId) (B : Nat) (l : List α) (w : World) (e : Ending) (w' : World) : Prop :=
  ∃ a n c, e = .returned (.slice a n c) ∧ OwnI enc s t w' B a n c l ∧ Below B w w'

/-- What a row owns, four cells later. -/
theorem stored4 {w : World} {B : Nat} {t : TypeId} {s g n cap : Nat} {xs : List Value} (h : w.ownsRow B t s (.slice (some ⟨g, 0, none⟩) n cap) n xs) (j0 j1 j2 j3 : Nat) (v0 v1 v2 v3 : Value) :
    ((((w.setCell ⟨g, j0, none⟩ v0).setCell ⟨g, j1, none⟩ v1).setCell ⟨g, j2, none⟩ v2).setCell ⟨g, j3, none⟩ v3).ownsRow B t s (.slice (some ⟨g, 0, none⟩) n cap) n ((((xs.set j0 v0).set j1 v1).set j2 v2).set j3 v3) ∧
    w.grownBy ((((w.setCell ⟨g, j0, none⟩ v0).setCell ⟨g, j1, none⟩ v1).setCell ⟨g, j2, none⟩ v2).setCell ⟨g, j3, none⟩ v3) (some g) := by
  have h0 := h.stored j0 v0
  have h1 := h0.1.stored j1 v1
  have h2 := h1.1.stored j2 v2
  have h3 := h2.1.stored j3 v3
  exact ⟨h3.1, h0.2.trans (h1.2.trans (h2.2.trans h3.2))⟩

/-- Fields of messages. -/
structure Fd where
  kind : Int
  max : Int
  cond : Int
  is : Int
def Fd.enc (x : Fd) : List Value := [.int .i64 x.kind, .int .i64 x.max, .int .i64 x.cond, .int .i64 x.is]
def Fd.val (x : Fd) : Value := .agg #[.int .i64 x.kind, .int .i64 x.max, .int .i64 x.cond, .int .i64 x.is]
theorem Fd.enc_len (x : Fd) : x.enc.length = 4 := rfl
abbrev Fds := Items Fd.enc 4
abbrev OwnF := OwnI Fd.enc 4
/-- The element's four cells. -/
theorem fds_at {w : World} {a : Option Addr} {n : Nat} {l : List Fd} (h : Fds w a n l) {j : Nat} (hj : j < n) : ∃ b o x, a = some ⟨b, o, none⟩ ∧ l[j]? = some x ∧
    w.cell? ⟨b, o + j * 4, none⟩ = some (.int .i64 x.kind) ∧ w.cell? ⟨b, o + j * 4 + 1, none⟩ = some (.int .i64 x.max) ∧ w.cell? ⟨b, o + j * 4 + 2, none⟩ = some (.int .i64 x.cond) ∧ w.cell? ⟨b, o + j * 4 + 3, none⟩ = some (.int .i64 x.is) := by
  obtain ⟨b, o, x, e, hx, hc⟩ := h.at_ hj
  exact ⟨b, o, x, e, hx, by simpa using hc 0 _ rfl, hc 1 _ rfl, hc 2 _ rfl, hc 3 _ rfl⟩
end Go.Proofs.YtcmjadfpifpknaaGreat
namespace Go.Proofs.YtcmjadfpifpknaaGreat
open Go.ChangeShapes Go.WideShapes Go.ChangeAt Go.RowKit
set_option linter.unusedVariables false

theorem infoFieldS : (Tryz.prog.info? 157).map (fun i => (i.zero, i.size, i.bytes)) = some (some (.agg #[.int .i64 0, .int .i64 0, .int .i64 0, .int .i64 0]), 4, 32) := by kernel_rfl

theorem set4 (A : List Value) (p : Nat) (hA : A.length = p) (a b c d : Value) (R : List Value) (v0 v1 v2 v3 : Value) :
    ((((A ++ a :: b :: c :: d :: R).set p v0).set (p + 1) v1).set (p + 2) v2).set (p + 3) v3 = A ++ v0 :: v1 :: v2 :: v3 :: R := by
  subst hA
  rw [List.set_append_right _ _ (Nat.le_refl _), Nat.sub_self, List.set_cons_zero, List.set_append_right _ _ (by omega), List.set_append_right _ _ (by omega), List.set_append_right _ _ (by omega)]
  simp [show A.length + 1 - A.length = 1 by omega, show A.length + 2 - A.length = 2 by omega, show A.length + 3 - A.length = 3 by omega]
def zeroCell : Value := .int .i64 0
def fillF (l : List Fd) (j n : Nat) : List Value := flatOf Fd.enc (l.take j) ++ List.replicate ((n - j) * 4) zeroCell
theorem fillF_zero (l : List Fd) (n : Nat) : fillF l 0 n = List.replicate (n * 4) zeroCell := by simp [fillF, flatOf]
theorem fillF_all (l : List Fd) (n : Nat) (h : l.length = n) : fillF l n n = flatOf Fd.enc l := by
  unfold fillF
  rw [List.take_of_length_le (by omega), Nat.sub_self]
  simp
theorem fillF_step {l : List Fd} {j n : Nat} {x : Fd} (hj : l[j]? = some x) (hn : l.length = n) :
    ((((fillF l j n).set (j * 4) (.int .i64 x.kind)).set (j * 4 + 1) (.int .i64 x.max)).set (j * 4 + 2) (.int .i64 x.cond)).set (j * 4 + 3) (.int .i64 x.is) = fillF l (j + 1) n := by
  have hlt : j < l.length := by
    rcases Nat.lt_or_ge j l.length with h | h
    · exact h
    · rw [List.getElem?_eq_none h] at hj; cases hj
  unfold fillF
  rw [show (n - j) * 4 = (n - (j + 1)) * 4 + 1 + 1 + 1 + 1 by omega, List.replicate_succ, List.replicate_succ, List.replicate_succ, List.replicate_succ, set4 _ (j * 4) (by rw [flatOf_len Fd.enc_len, List.length_take]; omega), List.take_add_one, hj]
  simp [flatOf, Fd.enc]
theorem fillF_len {l : List Fd} {j n : Nat} (hn : l.length = n) (hj : j ≤ n) : (fillF l j n).length = n * 4 := by
  unfold fillF
  rw [List.length_append, flatOf_len Fd.enc_len, List.length_take, List.length_replicate]
  omega
theorem made4 (n : Nat) : (madeCells (Value.agg #[.int .i64 0, .int .i64 0, .int .i64 0, .int .i64 0]).cells (n * 4)).toList = List.replicate (n * 4) zeroCell := by
  apply List.ext_getElem
  · simp [madeCells]
  · intro i h1 h2
    simp only [madeCells, Value.cells, List.getElem_replicate, Array.getElem_toList, Array.getElem_map, Array.getElem_range]
    have : i % 4 < 4 := Nat.mod_lt _ (by omega)
    show (#[zeroCell, zeroCell, zeroCell, zeroCell] : Array Value)[i % 4]! = zeroCell
    match i % 4, this with
    | 0, _ => rfl
    | 1, _ => rfl
    | 2, _ => rfl
    | 3, _ => rfl

/-- Cells in a row of the call's own are there, whatever they hold. -/
theorem row_cell {w : World} {B : Nat} {t : TypeId} {s g n cap : Nat} {xs : List Value} (h : w.ownsRow B t s (.slice (some ⟨g, 0, none⟩) n cap) n xs) {k : Nat} (hk : k < n * s) : ∃ u, w.cell? ⟨g, k, none⟩ = some u := by
  rw [h.cellAt k hk]
  have : k < xs.length := by rw [h.1]; exact hk
  exact ⟨_, List.getElem?_eq_getElem this⟩

end Go.Proofs.YtcmjadfpifpknaaGreat
namespace Go.Proofs.YtcmjadfpifpknaaGreat
open Go.ChangeShapes Go.WideShapes Go.ChangeAt Go.RowKit
set_option linter.unusedVariables false

theorem inR_any (n l h : Int) (w : World) :
    Calls Tryz.prog 55 #[.int .i64 n, .int .i64 l, .int .i64 h] w fun e w' => e = .returned (.bool (decide (l ≤ n ∧ n ≤ h))) ∧ w = w' := by
  by_cases h1 : l ≤ n <;> by_cases h2 : n ≤ h <;> (go_enter Tryz.func55, Tryz.ntmps55; go_wp2; go_ret; exact ⟨by simp [h1, h2], rfl⟩)
theorem l1R_any (n l h : Int) (w : World) :
    Calls Tryz.prog 99 #[.int .i64 n, .int .i64 l, .int .i64 h] w fun e w' => e = .returned (.bool (decide (l ≤ n ∧ n ≤ h))) ∧ w = w' := by
  by_cases h1 : l ≤ n <;> by_cases h2 : n ≤ h <;> (go_enter Tryz.func99, Tryz.ntmps99; go_wp2; go_ret; exact ⟨by simp [h1, h2], rfl⟩)

/-- A kind's name. -/
def nameOf (k : Int) : List UInt8 := if k = 1 then [110, 117, 109] else if k = 2 then [116, 101, 120, 116] else if k = 3 then [108, 105, 115, 116] else []
/-- A kind's greatest Max. -/
def mostOf (k : Int) : Int := if k = 1 then 99 else if k = 2 then 5 else if k = 3 then 5 else 0
/-- The value that stands for a kind. -/
def typeVal (k : Int) : Value := if k = 1 then .iface 177 (.agg #[]) else if k = 2 then .iface 178 (.agg #[]) else if k = 3 then .iface 180 (.agg #[]) else .iface 188 (.agg #[])

set_option maxRecDepth 100000 in
theorem typeOf_any (k : Int) (w : World) : Calls Tryz.prog 158 #[.int .i64 k] w fun e w' => e = .returned (typeVal k) ∧ w = w' := by
  by_cases h1 : k = 1
  · subst h1
    go_enter Tryz.func158, Tryz.ntmps158
    go_wp2
    go_ret
    exact ⟨rfl, rfl⟩
  · by_cases h2 : k = 2
    · subst h2
      go_enter Tryz.func158, Tryz.ntmps158
      go_wp2
      go_ret
      exact ⟨rfl, rfl⟩
    · by_cases h3 : k = 3
      · subst h3
        go_enter Tryz.func158, Tryz.ntmps158
        go_wp2
        go_ret
        exact ⟨rfl, rfl⟩
      · have e1 : (k == 1) = false := by simpa using h1
        have e2 : (k == 2) = false := by simpa using h2
        have e3 : (k == 3) = false := by simpa using h3
        go_enter Tryz.func158, Tryz.ntmps158
        go_wp2
        go_ret
        exact ⟨by simp [typeVal, h1, h2, h3], rfl⟩

end Go.Proofs.YtcmjadfpifpknaaGreat
