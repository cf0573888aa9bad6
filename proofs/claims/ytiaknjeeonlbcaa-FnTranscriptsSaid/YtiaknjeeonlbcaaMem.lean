/- Slices of integers: what a walk is told of one that is read, and of one that the call itself has made. No function of the program is spoken of. -/
import Derived.Test.YtiaknjeeonlbcaaRows
import Derived.WalkKit
import Derived.ProofKit
import Derived.OpenShut
import Derived.Lib.Hide
import Derived.Maps.AppendAt
import Derived.Deep.AppendLies
import Derived.OwnWalk
import Derived.Laws.OwnMore
import Derived.Lib.SmallJoins
namespace Go.Proofs.Ytiaknjeeonlbcaa
open Go.ChangeShapes Go.WideShapes Go.ChangeAt Go.RowKit
set_option linter.unusedVariables false

theorem addr_block (ad : Addr) (j : Nat) : (ad.add j).block = ad.block := by unfold Addr.add; split <;> rfl
theorem addr_add (ad : Addr) (i j : Nat) : (ad.add i).add j = ad.add (i + j) := by
  cases ad
  unfold Addr.add
  by_cases hi : i = 0 <;> by_cases hj : j = 0 <;> simp [hi, hj, Nat.add_assoc]
theorem cell_in {w : World} {p : Addr} {v : Value} (h : w.cell? p = some v) : p.block < w.heap.size := by
  rcases Nat.lt_or_ge p.block w.heap.size with h1 | h1
  · exact h1
  · unfold World.cell? at h
    rw [Array.getElem?_eq_none h1] at h
    cases h

theorem cell_stay {w w' : World} {p : Addr} {v : Value} (h : w.cell? p = some v) (hb : Below w.heap.size w w') : w'.cell? p = some v := by rw [hb.cell (cell_in h)]; exact h
/-- From a on lie n integers of kind k: the list l. -/
structure Nums (k : IntKind) (w : World) (a : Option Addr) (n : Nat) (l : List Int) : Prop where
  len : l.length = n
  fits : (n : Int) ≤ 9223372036854775807
  cell : ∀ j, j < n → ∃ ad, a = some ad ∧ w.cell? (ad.add j) = some (.int k (l.getD j 0))
theorem Nums.none {k : IntKind} {w : World} {a : Option Addr} : Nums k w a 0 [] := ⟨rfl, by omega, fun j h => absurd h (by omega)⟩
theorem Nums.same {k : IntKind} {w w' : World} {a : Option Addr} {n : Nat} {l : List Int} (h : Nums k w a n l) (hb : Below w.heap.size w w') : Nums k w' a n l :=
  ⟨h.len, h.fits, fun j hj => by
    obtain ⟨ad, e, hx⟩ := h.cell j hj
    exact ⟨ad, e, by rw [hb.cell (cell_in hx)]; exact hx⟩⟩
theorem Nums.at_ {k : IntKind} {w : World} {a : Option Addr} {n : Nat} {l : List Int} (h : Nums k w a n l) {j : Nat} (hj : j < n) : ∃ ad x, a = some ad ∧ l[j]? = some x ∧ w.cell? (ad.add j) = some (.int k x) := by
  obtain ⟨ad, e, hx⟩ := h.cell j hj
  have hl : j < l.length := by rw [h.len]; exact hj
  exact ⟨ad, _, e, by rw [List.getD, List.getElem?_eq_getElem hl]; rfl, hx⟩
/-- The elements of a list that lie from place i on, m of them. -/
theorem Nums.sub {k : IntKind} {w : World} {a : Option Addr} {n : Nat} {l : List Int} (h : Nums k w a n l) (i m : Nat) (hi : i + m ≤ n) {b : Option Addr} (hb : 0 < m → ∀ ad, a = some ad → b = some (ad.add i)) : Nums k w b m ((l.drop i).take m) := by
  refine ⟨by rw [List.length_take, List.length_drop, h.len]; omega, by have := h.fits; omega, fun j hj => ?_⟩
  obtain ⟨ad, e, hx⟩ := h.cell (i + j) (by omega)
  refine ⟨ad.add i, hb (by omega) ad e, ?_⟩
  rw [addr_add, hx]
  simp [List.getD, hj]

/-- The slice is the call's own, in a block from B on; it holds l. -/
def Own (k : IntKind) (t : TypeId) (w : World) (B : Nat) (a : Option Addr) (n c : Nat) (l : List Int) : Prop :=
  l.length = n ∧ w.ownsRow B t 1 (.slice a n c) n (l.map (Value.int k))
/-- The blocks in which a slice may lie. -/
def Span (a : Option Addr) (lo hi : Nat) : Prop := ∀ ad, a = some ad → lo ≤ ad.block ∧ ad.block < hi
theorem Span.none {lo hi : Nat} : Span none lo hi := fun _ h => by cases h
theorem Span.mono {a : Option Addr} {lo hi lo' hi' : Nat} (h : Span a lo hi) (h0 : lo' ≤ lo) (h1 : hi ≤ hi') : Span a lo' hi' := fun ad e => ⟨Nat.le_trans h0 (h ad e).1, Nat.lt_of_lt_of_le (h ad e).2 h1⟩

section
variable {k : IntKind} {t : TypeId} {w w' : World} {B n c : Nat} {a : Option Addr} {l : List Int}
theorem Own.len (h : Own k t w B a n c l) : l.length = n := h.1
theorem Own.row (h : Own k t w B a n c l) : w.ownsRow B t 1 (.slice a n c) n (l.map (Value.int k)) := h.2
theorem Own.room (h : Own k t w B a n c l) : n ≤ c ∧ (c : Int) ≤ 9223372036854775807 := by
  rcases h.2.2 with ⟨h1, h2⟩ | ⟨g, cap, cur, h1, _, _, h2, h3, _⟩
  · injection h1 with h3 h4 h5
    subst h5
    subst h2
    exact ⟨Nat.le_refl _, by omega⟩
  · injection h1 with h4 h5 h6
    subst h6
    unfold maxLen at h3
    exact ⟨h2, by omega⟩
theorem Own.span (h : Own k t w B a n c l) : Span a B w.heap.size := by
  intro ad e
  subst e
  exact h.2.lt ad.block rfl
theorem Own.head (h : Own k t w B a n c l) (hn : 0 < n) : ∃ g, a = some ⟨g, 0, none⟩ ∧ B ≤ g ∧ g < w.heap.size := by
  obtain ⟨g, cap, e, h1, h2⟩ := h.2.form hn
  injection e with e1 e2 e3
  exact ⟨g, e1, h1, h2⟩
theorem Own.nums (h : Own k t w B a n c l) : Nums k w a n l := by
  refine ⟨h.1, by have := h.room; omega, fun j hj => ?_⟩
  obtain ⟨g, e, _, _⟩ := h.head (by omega)
  subst e
  have hl : j < l.length := by rw [h.1]; exact hj
  refine ⟨_, rfl, h.2.cells (g := g) rfl j _ ?_⟩
  rw [List.getElem?_map, List.getElem?_eq_getElem hl]
  simp [List.getD, List.getElem?_eq_getElem hl]
theorem grown_below (hb : Below w.heap.size w w') (row : Option Nat) : w.grownBy w' row := ⟨hb.os, hb.tape, hb.output, hb.size, fun i hi _ => hb.block i hi⟩
theorem Own.same (h : Own k t w B a n c l) (hb : Below w.heap.size w w') : Own k t w' B a n c l := by
  cases a with
  | none => exact ⟨h.1, h.2.kept (grown_below hb none) (Or.inl rfl)⟩
  | some ad => exact ⟨h.1, h.2.kept (grown_below hb none) (Or.inr (by simp [Value.ownBlock]))⟩
/-- A write to a slice that lies in other blocks. -/
theorem Own.apart {b : Option Addr} {m d lo hi lo' hi' : Nat} (h : Own k t w B a n c l) (hg : w.grownBy w' (Value.ownBlock (.slice b m d))) (s : Span a lo hi) (s' : Span b lo' hi') (hd : hi ≤ lo' ∨ hi' ≤ lo) : Own k t w' B a n c l := by
  cases a with
  | none => exact ⟨h.1, h.2.kept hg (Or.inl rfl)⟩
  | some ad =>
    refine ⟨h.1, h.2.kept hg (Or.inr ?_)⟩
    have h1 := s ad rfl
    cases b with
    | none => simp [Value.ownBlock]
    | some be =>
      have h2 := s' be rfl
      simp only [Value.ownBlock, ne_eq, Option.some.injEq]
      omega
theorem Own.lower (h : Own k t w B a n c l) {B' : Nat} (hB : B' ≤ B) : Own k t w B' a n c l := by
  refine ⟨h.1, h.2.1, ?_⟩
  rcases h.2.2 with h1 | ⟨g, cap, cur, h1, h2, h3⟩
  · exact Or.inl h1
  · exact Or.inr ⟨g, cap, cur, h1, Nat.le_trans hB h2, h3⟩
theorem Own.nil : Own k t w B none 0 0 [] := ⟨rfl, World.ownsRow_nil _ _ _ _⟩
theorem Own.empty (hB : B ≤ w.heap.size) : Own k t (w.alloc (.cells #[] t)) B (some ⟨w.heap.size, 0, none⟩) 0 0 [] :=
  ⟨rfl, World.ownsRow_lit w #[] 0 hB (by unfold maxLen; omega) rfl⟩
theorem Own.alloc (h : Own k t w B a n c l) (o : Obj) : Own k t (w.alloc o) B a n c l := ⟨h.1, h.2.alloc o⟩
theorem alloc_same (w : World) (o : Obj) : Below w.heap.size w (w.alloc o) := (Below.refl _ w).alloc (Nat.le_refl _) o
theorem drewN_same (w : World) (q : Nat) : Below w.heap.size w (w.drewN q) := ⟨rfl, rfl, rfl, Nat.le_refl _, fun _ _ => rfl⟩
theorem nums_new (w : World) (k : IntKind) (x : Int) (t : TypeId) : Nums k (w.alloc (.cells #[.int k x] t)) (some ⟨w.heap.size, 0, none⟩) 1 [x] :=
  ⟨rfl, by omega, fun j hj => ⟨_, rfl, by
    obtain rfl : j = 0 := by omega
    exact cell_one_new w (.int k x) t 0 _ rfl⟩⟩
theorem grown_to {b : Option Addr} {m d : Nat} (hg : w.grownBy w' (Value.ownBlock (.slice b m d))) {B0 lo hi : Nat} {w0 : World} (h : Below B0 w0 w) (s : Span b lo hi) (h0 : B0 ≤ lo) (h1 : B0 ≤ w.heap.size) : Below B0 w0 w' := by
  refine h.grown hg h1 fun j e => ?_
  cases b with
  | none => simp [Value.ownBlock] at e
  | some be =>
    have := s be rfl
    simp only [Value.ownBlock, Option.some.injEq] at e
    omega
end

/-- What a function leaves that makes a slice of integers. -/
def Made (k : IntKind) (t : TypeId) (B : Nat) (l : List Int) (w : World) (e : Ending) (w' : World) : Prop :=
  ∃ a n c, e = .returned (.slice a n c) ∧ Own k t w' B a n c l ∧ Below B w w'
/-- What a function leaves that only reads, or makes memory that it does not hand back. -/
def Told (v : Value) (w : World) (e : Ending) (w' : World) : Prop := e = .returned v ∧ Below w.heap.size w w'

section
variable {P : Program} (w : World)
theorem run_app_nothing (B : Nat) (t ty e : TypeId) (i : TypeInfo) (ht : P.underlying t = some (.slice e)) (hi : P.info? e = some i) {v : Value} {n : Nat} {xs : List Value} (hown : w.ownsRow B e 1 v n xs) (d : Nat) :
    (Builtin.append_ #[t, t] ty #[v, .slice none 0 d]).run P w = .ok v w := by
  rcases hown.2 with ⟨rfl, rfl⟩ | ⟨g, cap, cur, rfl, _, _, hle, _⟩
  · simp [Builtin.append_, run_underlying ht, sizeOf, typeInfo, hi, Builtin.lenOf, Builtin.firstCells]
  · simp [Builtin.append_, run_underlying ht, sizeOf, typeInfo, hi, Builtin.lenOf, Builtin.firstCells, hle, storeCells]
/-- Integers are appended to a slice of the call's own, wherever they lie. -/
theorem run_app {k : IntKind} (t ty e : TypeId) (i : TypeInfo) (z : Value) (bytes : Nat) (ht : P.underlying t = some (.slice e)) (hi : P.info? e = some i) (hz : i.zero = some z) (hsize : i.size = 1) (hby : i.bytes = bytes) (hzs : z.cells.size = 1)
    {B n c m d : Nat} {a b : Option Addr} {l l' : List Int} (ho : Own k e w B a n c l) (hs : Nums k w b m l') (hbytes : (n + m) * bytes ≤ 140737488355328) (h63 : n + m ≤ maxLen) (hB : B ≤ w.heap.size) :
    ∃ a' c' w', (Builtin.append_ #[t, t] ty #[.slice a n c, .slice b m d]).run P w = .ok (.slice a' (n + m) c') w' ∧ Own k e w' B a' (n + m) c' (l ++ l') ∧ Below B w w' := by
  have hsp := ho.span
  rcases b with _ | ad
  · obtain rfl : m = 0 := by
      rcases Nat.eq_zero_or_pos m with h0 | h0
      · exact h0
      · obtain ⟨ad, h, _⟩ := hs.cell 0 h0
        cases h
    obtain rfl : l' = [] := List.eq_nil_of_length_eq_zero hs.len
    exact ⟨a, c, w, run_app_nothing w B t ty e i ht hi ho.2 d, by simpa using ho, Below.refl _ _⟩
  · obtain ⟨v', w', hr, h2, h3, _, _⟩ := run_append_own_at (P := P) w B t ty e i z 1 bytes ht hi hz hsize hby hzs (by omega) (.slice a n c) n (l.map (Value.int k)) ho.2 ad m d (l'.map (Value.int k)) (by simp [hs.len]) (fun j u hu => by
      have hj : j < m := by
        rcases Nat.lt_or_ge j m with h | h
        · exact h
        · rw [List.getElem?_eq_none (by simp [hs.len]; exact h)] at hu; cases hu
      obtain ⟨ad', e', hx⟩ := hs.cell j hj
      cases e'
      have hl : j < l'.length := by rw [hs.len]; exact hj
      rw [List.getElem?_map, List.getElem?_eq_getElem hl] at hu
      cases hu
      rw [hx]
      simp [List.getD, List.getElem?_eq_getElem hl]) (ints_oneCell k l') h63 hbytes hB
    rw [← List.map_append] at h2
    have hbw : Below B w w' := grown_to h3 (Below.refl B w) hsp (Nat.le_refl _) hB
    rcases h2.2 with ⟨rfl, hn⟩ | ⟨g, cap, cur, rfl, hrest⟩
    · exact ⟨none, 0, w', by rw [hn]; exact hr, by rw [hn] at h2 ⊢; exact ⟨by have := h2.1; simpa using this, h2⟩, hbw⟩
    · exact ⟨_, cap, w', hr, ⟨by have := ho.len; have := hs.len; simp; omega, h2⟩, hbw⟩
theorem wpl_app {ops : Array Oper} {rest : List Oper} {o : Oper} {act : Act} {Q : Exit → Act → World → Prop} (hgd : o.guard = none) (s x : Operand) (t : TypeId)
    (ho : o.op = .call { callee := .builtin .append, args := #[s, x], argTypes := #[t, t] })
    (k : IntKind) (e : TypeId) (i : TypeInfo) (z : Value) (bytes : Nat) (ht : P.underlying t = some (.slice e)) (hi : P.info? e = some i) (hz : i.zero = some z) (hsize : i.size = 1) (hby : i.bytes = bytes) (hzs : z.cells.size = 1)
    {B n c m d : Nat} {a b : Option Addr} {l l' : List Int} (hs : act.eval s = .slice a n c) (hown : Own k e w B a n c l) (hx : act.eval x = .slice b m d) (hnew : Nums k w b m l')
    (hb1 : 0 < bytes) (hbytes : (n + m) * bytes ≤ 140737488355328) (hB : B ≤ w.heap.size)
    (h : ∀ a' c' w', Own k e w' B a' (n + m) c' (l ++ l') → Below B w w' → wpList P ops Q rest (act.put o.dst (.slice a' (n + m) c')) w') : wpList P ops Q (o :: rest) act w := by
  refine wpList_plain hgd fun K hK => ?_
  have h63 : n + m ≤ maxLen := by
    have := Nat.mul_le_mul_left (n + m) hb1
    unfold maxLen
    omega
  obtain ⟨a', c', w', hr, h2, h3⟩ := run_app (P := P) (d := d) w t o.type e i z bytes ht hi hz hsize hby hzs hown hnew hbytes h63 hB
  unfold Oper.wp execOp
  simp only [ho, resolve, invoke, builtin, Sem.run_bind, Sem.run_pure, Result.andThen_ok, List.map_toArray, List.map_cons, List.map_nil, hs, hx, hr]
  exact hK _ _ (h a' c' w' h2 h3)
end
end Go.Proofs.Ytiaknjeeonlbcaa
