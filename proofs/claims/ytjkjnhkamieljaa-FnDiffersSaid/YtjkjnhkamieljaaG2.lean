/- Slices of structs: what a walk is told of one that is read, and of one that the call itself has made; 'enc' says which cells an element has, s how many. No function of the program is spoken of. Elements of any kind are appended to a slice of the call's own. No function of the program is spoken of. Lists of fields that are being drawn: what a step of the cursor leaves; one number stored into one of them. The helpers of the exact laws at lists of fields: copied, compared. A list of fields is drawn. -/
import Derived.Test.YtjkjnhkamieljaaG1
import Derived.Deep.QuietTactic
import Derived.BigQuiet
import Derived.RegionTactic
import Derived.StillTailTactics
import Derived.Handy
namespace Go.Proofs.Ytjkjnhkamieljaa
open Go.ChangeShapes Go.WideShapes Go.ChangeAt Go.RowKit
set_option linter.unusedVariables false

theorem addr_zero (g k : Nat) : (⟨g, 0, none⟩ : Addr).add k = ⟨g, k, none⟩ := by
  unfold Addr.add
  by_cases h : k = 0 <;> simp [h]
theorem block_cell {w : World} {g : Nat} {cs : Array Value} {t : TypeId} (h : w.heap[g]? = some (.cells cs t (0, 0))) (k : Nat) : w.cell? ⟨g, k, none⟩ = cs[k]? := by simp [World.cell?, h]
theorem block_frozen {w : World} {g : Nat} {cs : Array Value} {t : TypeId} (h : w.heap[g]? = some (.cells cs t (0, 0))) (k : Nat) : w.frozen? ⟨g, k, none⟩ = false := by simp [World.frozen?, h]

/-- The cells of the elements, one behind the other. -/
def flatOf {α : Type} (enc : α → List Value) (l : List α) : List Value := l.flatMap enc
section
variable {α : Type} {enc : α → List Value} {s : Nat}
theorem flatOf_len (hs : ∀ x, (enc x).length = s) : ∀ l : List α, (flatOf enc l).length = l.length * s
  | [] => by simp [flatOf]
  | x :: t => by
    have := flatOf_len hs t
    unfold flatOf at this ⊢
    rw [List.flatMap_cons, List.length_append, hs, this, List.length_cons, Nat.succ_mul]
    omega
theorem flatOf_app (l l' : List α) : flatOf enc (l ++ l') = flatOf enc l ++ flatOf enc l' := by simp [flatOf]
theorem flatOf_at (hs : ∀ x, (enc x).length = s) : ∀ (l : List α) (j : Nat) (x : α) (i : Nat), l[j]? = some x → i < s → (flatOf enc l)[j * s + i]? = (enc x)[i]?
  | [], j, x, i, h, hi => by simp at h
  | y :: t, 0, x, i, h, hi => by
    simp only [List.getElem?_cons_zero, Option.some.injEq] at h
    subst h
    unfold flatOf
    rw [List.flatMap_cons, List.getElem?_append_left (by rw [hs]; omega)]
    simp
  | y :: t, j + 1, x, i, h, hi => by
    have h2 : t[j]? = some x := by simpa using h
    have ih := flatOf_at hs t j x i h2 hi
    unfold flatOf at ih ⊢
    rw [List.flatMap_cons, List.getElem?_append_right (by rw [hs, Nat.succ_mul]; omega), hs, ← ih]
    congr 1
    rw [Nat.succ_mul]
    omega

/-- From a on lie n elements: the list l. -/
structure Items (enc : α → List Value) (s : Nat) (w : World) (a : Option Addr) (n : Nat) (l : List α) : Prop where
  len : l.length = n
  fits : (n : Int) ≤ 9223372036854775807
  cell : ∀ j x, l[j]? = some x → ∃ b o, a = some ⟨b, o, none⟩ ∧ ∀ i v, (enc x)[i]? = some v → w.cell? ⟨b, o + j * s + i, none⟩ = some v
variable {w w' : World} {a : Option Addr} {n c B : Nat} {l : List α} {t : TypeId}
theorem Items.nothing : Items enc s w none 0 [] := ⟨rfl, by omega, fun j x h => by simp at h⟩
theorem Items.same (h : Items enc s w a n l) (hb : Below w.heap.size w w') : Items enc s w' a n l :=
  ⟨h.len, h.fits, fun j x hj => by
    obtain ⟨b, o, e, hx⟩ := h.cell j x hj
    exact ⟨b, o, e, fun i v hv => by rw [hb.cell (cell_in (hx i v hv))]; exact hx i v hv⟩⟩
theorem Items.at_ (h : Items enc s w a n l) {j : Nat} (hj : j < n) : ∃ b o x, a = some ⟨b, o, none⟩ ∧ l[j]? = some x ∧ ∀ i v, (enc x)[i]? = some v → w.cell? ⟨b, o + j * s + i, none⟩ = some v := by
  have hl : j < l.length := by rw [h.len]; exact hj
  obtain ⟨b, o, e, hx⟩ := h.cell j _ (List.getElem?_eq_getElem hl)
  exact ⟨b, o, _, e, List.getElem?_eq_getElem hl, hx⟩
theorem Items.take (h : Items enc s w a n l) (m : Nat) (hm : m ≤ n) : Items enc s w a m (l.take m) := by
  refine ⟨by rw [List.length_take, h.len]; omega, by have := h.fits; omega, fun j x hj => h.cell j x ?_⟩
  rw [List.getElem?_take] at hj
  split at hj
  · exact hj
  · cases hj

/-- The slice is the call's own, in a block from B on; it holds l. -/
def OwnI (enc : α → List Value) (s : Nat) (t : TypeId) (w : World) (B : Nat) (a : Option Addr) (n c : Nat) (l : List α) : Prop :=
  l.length = n ∧ w.ownsRow B t s (.slice a n c) n (flatOf enc l)
theorem OwnI.len (h : OwnI enc s t w B a n c l) : l.length = n := h.1
theorem OwnI.row (h : OwnI enc s t w B a n c l) : w.ownsRow B t s (.slice a n c) n (flatOf enc l) := h.2
theorem OwnI.room (h : OwnI enc s t w B a n c l) : n ≤ c ∧ (c : Int) ≤ 9223372036854775807 := by
  rcases h.2.2 with ⟨h1, h2⟩ | ⟨g, cap, cur, h1, _, _, h2, h3, _⟩
  · injection h1 with h3 h4 h5
    subst h5
    subst h2
    exact ⟨Nat.le_refl _, by omega⟩
  · injection h1 with h4 h5 h6
    subst h6
    unfold maxLen at h3
    exact ⟨h2, by omega⟩
theorem OwnI.span (h : OwnI enc s t w B a n c l) : Span a B w.heap.size := by
  intro ad e
  subst e
  exact h.2.lt ad.block rfl
theorem OwnI.head (h : OwnI enc s t w B a n c l) (hn : 0 < n) : ∃ g, a = some ⟨g, 0, none⟩ ∧ B ≤ g ∧ g < w.heap.size := by
  obtain ⟨g, cap, e, h1, h2⟩ := h.2.form hn
  injection e with e1 e2 e3
  exact ⟨g, e1, h1, h2⟩
theorem OwnI.items (hs : ∀ x, (enc x).length = s) (h : OwnI enc s t w B a n c l) : Items enc s w a n l := by
  refine ⟨h.1, by have := h.room; omega, fun j x hj => ?_⟩
  have hjl : j < l.length := by
    rcases Nat.lt_or_ge j l.length with h1 | h1
    · exact h1
    · rw [List.getElem?_eq_none h1] at hj; cases hj
  obtain ⟨g, e, _, _⟩ := h.head (by have := h.1; omega)
  subst e
  refine ⟨g, 0, rfl, fun i v hv => ?_⟩
  have his : i < s := by
    rcases Nat.lt_or_ge i s with h1 | h1
    · exact h1
    · rw [List.getElem?_eq_none (by rw [hs]; exact h1)] at hv; cases hv
  have h2 := h.2.cells (g := g) rfl (j * s + i) v (by rw [flatOf_at hs l j x i hj his]; exact hv)
  rw [Nat.zero_add]
  rw [addr_zero] at h2
  exact h2
theorem OwnI.same (h : OwnI enc s t w B a n c l) (hb : Below w.heap.size w w') : OwnI enc s t w' B a n c l := by
  cases a with
  | none => exact ⟨h.1, h.2.kept (grown_below hb none) (Or.inl rfl)⟩
  | some ad => exact ⟨h.1, h.2.kept (grown_below hb none) (Or.inr (by simp [Value.ownBlock]))⟩
/-- A write to a slice that lies in other blocks. -/
theorem OwnI.apart {b : Option Addr} {m d lo hi lo' hi' : Nat} (h : OwnI enc s t w B a n c l) (hg : w.grownBy w' (Value.ownBlock (.slice b m d))) (sp : Span a lo hi) (sp' : Span b lo' hi') (hd : hi ≤ lo' ∨ hi' ≤ lo) : OwnI enc s t w' B a n c l := by
  cases a with
  | none => exact ⟨h.1, h.2.kept hg (Or.inl rfl)⟩
  | some ad =>
    refine ⟨h.1, h.2.kept hg (Or.inr ?_)⟩
    have h1 := sp ad rfl
    cases b with
    | none => simp [Value.ownBlock]
    | some be =>
      have h2 := sp' be rfl
      simp only [Value.ownBlock, ne_eq, Option.some.injEq]
      omega
theorem OwnI.lower (h : OwnI enc s t w B a n c l) {B' : Nat} (hB : B' ≤ B) : OwnI enc s t w B' a n c l := by
  refine ⟨h.1, h.2.1, ?_⟩
  rcases h.2.2 with h1 | ⟨g, cap, cur, h1, h2, h3⟩
  · exact Or.inl h1
  · exact Or.inr ⟨g, cap, cur, h1, Nat.le_trans hB h2, h3⟩
theorem OwnI.nil : OwnI enc s t w B none 0 0 [] := ⟨rfl, World.ownsRow_nil _ _ _ _⟩
theorem OwnI.alloc (h : OwnI enc s t w B a n c l) (o : Obj) : OwnI enc s t (w.alloc o) B a n c l := ⟨h.1, h.2.alloc o⟩
end
/-- What a function leaves that makes a slice of structs. -/
def MadeI {α : Type} (enc : α → List Value) (s : Nat) (t : TypeId) (B : Nat) (l : List α) (w : World) (e : Ending) (w' : World) : Prop :=
  ∃ a n c, e = .returned (.slice a n c) ∧ OwnI enc s t w' B a n c l ∧ Below B w w'

/-- What a row owns, four cells later. -/
theorem stored4 {w : World} {B : Nat} {t : TypeId} {s g n cap : Nat} {xs : List Value} (h : w.ownsRow B t s (.slice (some ⟨g, 0, none⟩) n cap) n xs) (j0 j1 j2 j3 : Nat) (v0 v1 v2 v3 : Value) :
    ((((w.setCell ⟨g, j0, none⟩ v0).setCell ⟨g, j1, none⟩ v1).setCell ⟨g, j2, none⟩ v2).setCell ⟨g, j3, none⟩ v3).ownsRow B t s (.slice (some ⟨g, 0, none⟩) n cap) n ((((xs.set j0 v0).set j1 v1).set j2 v2).set j3 v3) ∧
    w.grownBy ((((w.setCell ⟨g, j0, none⟩ v0).setCell ⟨g, j1, none⟩ v1).setCell ⟨g, j2, none⟩ v2).setCell ⟨g, j3, none⟩ v3) (some g) := by
  have h0 := h.stored j0 v0
  have h1 := h0.1.stored j1 v1
  have h2 := h1.1.stored j2 v2
  have h3 := h2.1.stored j3 v3
  exact ⟨h3.1, h0.2.trans (h1.2.trans (h2.2.trans h3.2))⟩

/-- Fields of messages. -/
structure Fd where
  kind : Int
  max : Int
  cond : Int
  is : Int
def Fd.enc (x : Fd) : List Value := [.int .i64 x.kind, .int .i64 x.max, .int .i64 x.cond, .int .i64 x.is]
def Fd.val (x : Fd) : Value := .agg #[.int .i64 x.kind, .int .i64 x.max, .int .i64 x.cond, .int .i64 x.is]
theorem Fd.enc_len (x : Fd) : x.enc.length = 4 := rfl
abbrev Fds := Items Fd.enc 4
abbrev OwnF := OwnI Fd.enc 4
/-- The element's four cells. -/
theorem fds_at {w : World} {a : Option Addr} {n : Nat} {l : List Fd} (h : Fds w a n l) {j : Nat} (hj : j < n) : ∃ b o x, a = some ⟨b, o, none⟩ ∧ l[j]? = some x ∧
    w.cell? ⟨b, o + j * 4, none⟩ = some (.int .i64 x.kind) ∧ w.cell? ⟨b, o + j * 4 + 1, none⟩ = some (.int .i64 x.max) ∧ w.cell? ⟨b, o + j * 4 + 2, none⟩ = some (.int .i64 x.cond) ∧ w.cell? ⟨b, o + j * 4 + 3, none⟩ = some (.int .i64 x.is) := by
  obtain ⟨b, o, x, e, hx, hc⟩ := h.at_ hj
  exact ⟨b, o, x, e, hx, by simpa using hc 0 _ rfl, hc 1 _ rfl, hc 2 _ rfl, hc 3 _ rfl⟩
end Go.Proofs.Ytjkjnhkamieljaa
namespace Go.Proofs.Ytjkjnhkamieljaa
open Go.ChangeShapes Go.WideShapes Go.ChangeAt Go.RowKit
set_option linter.unusedVariables false

section
variable {α : Type} {enc : α → List Value} {s : Nat}
theorem flatOf_one (x : α) : flatOf enc [x] = enc x := by simp [flatOf]
theorem items_flat (hs : ∀ x, (enc x).length = s) (h0 : 0 < s) {w : World} {b o m : Nat} {l : List α} (h : Items enc s w (some ⟨b, o, none⟩) m l) : ∀ p u, (flatOf enc l)[p]? = some u → w.cell? ((⟨b, o, none⟩ : Addr).add p) = some u := by
  intro p u hp
  have hlt : p < l.length * s := by
    rcases Nat.lt_or_ge p (l.length * s) with h1 | h1
    · exact h1
    · rw [List.getElem?_eq_none (by rw [flatOf_len hs]; exact h1)] at hp; cases hp
  have hj : p / s < l.length := Nat.div_lt_of_lt_mul (by rw [Nat.mul_comm]; exact hlt)
  have hi : p % s < s := Nat.mod_lt _ h0
  have e : p / s * s + p % s = p := by rw [Nat.mul_comm]; exact Nat.div_add_mod p s
  have h2 := flatOf_at hs l (p / s) _ (p % s) (List.getElem?_eq_getElem hj) hi
  rw [e, hp] at h2
  obtain ⟨b', o', e', hc⟩ := h.cell (p / s) _ (List.getElem?_eq_getElem hj)
  cases e'
  have h3 := hc (p % s) u h2.symm
  rw [Nat.add_assoc, e] at h3
  have e2 : (⟨b, o, none⟩ : Addr).add p = ⟨b, o + p, none⟩ := by
    unfold Addr.add
    by_cases hq : p = 0 <;> simp [hq]
  rw [e2]
  exact h3
theorem items_new (hs : ∀ x, (enc x).length = s) (w : World) (x : α) (t : TypeId) : Items enc s (w.alloc (.cells (enc x).toArray t)) (some ⟨w.heap.size, 0, none⟩) 1 [x] :=
  ⟨rfl, by omega, fun j y hj => by
    have hj0 : j = 0 := by
      rcases Nat.eq_zero_or_pos j with h | h
      · exact h
      · rw [List.getElem?_eq_none (by simp; omega)] at hj; cases hj
    subst hj0
    have : y = x := by simpa using hj.symm
    subst this
    refine ⟨_, _, rfl, fun i v hv => ?_⟩
    unfold World.cell?
    rw [show (⟨w.heap.size, 0 + 0 * s + i, none⟩ : Addr).block = w.heap.size from rfl, heap_alloc_new]
    simpa using hv⟩
variable {P : Program} (w : World)
theorem run_appI (hs : ∀ x, (enc x).length = s) (h0 : 0 < s) (h1 : ∀ x, ∀ u ∈ enc x, u.oneCell' = true) (t ty e : TypeId) (i : TypeInfo) (z : Value) (bytes : Nat) (ht : P.underlying t = some (.slice e)) (hi : P.info? e = some i) (hz : i.zero = some z) (hsize : i.size = s) (hby : i.bytes = bytes) (hzs : z.cells.size = s)
    {B n c m d b o : Nat} {a : Option Addr} {l l' : List α} (ho : OwnI enc s e w B a n c l) (hn : Items enc s w (some ⟨b, o, none⟩) m l') (hbytes : (n + m) * bytes ≤ 140737488355328) (h63 : n + m ≤ maxLen) (hB : B ≤ w.heap.size) :
    ∃ a' c' w', (Builtin.append_ #[t, t] ty #[.slice a n c, .slice (some ⟨b, o, none⟩) m d]).run P w = .ok (.slice a' (n + m) c') w' ∧ OwnI enc s e w' B a' (n + m) c' (l ++ l') ∧ w.grownBy w' (Value.ownBlock (.slice a n c)) := by
  obtain ⟨v', w', hr, h2, h3, _, _⟩ := run_append_own_at (P := P) w B t ty e i z s bytes ht hi hz hsize hby hzs h0 (.slice a n c) n (flatOf enc l) ho.2 ⟨b, o, none⟩ m d (flatOf enc l') (by rw [flatOf_len hs, hn.len]) (items_flat hs h0 hn) (fun u hu => by
      obtain ⟨x, _, hx⟩ := List.mem_flatMap.1 hu
      exact h1 x u hx) h63 hbytes hB
  rw [← flatOf_app] at h2
  have hl : (l ++ l').length = n + m := by rw [List.length_append, ho.1, hn.len]
  rcases h2.2 with ⟨rfl, hn'⟩ | ⟨g, cap, cur, rfl, hrest⟩
  · exact ⟨none, 0, w', by rw [hn']; exact hr, ⟨hl, by rw [hn'] at h2 ⊢; exact h2⟩, h3⟩
  · exact ⟨_, cap, w', hr, ⟨hl, h2⟩, h3⟩
theorem wpl_appI (hs : ∀ x, (enc x).length = s) (h0 : 0 < s) (h1 : ∀ x, ∀ u ∈ enc x, u.oneCell' = true) {ops : Array Oper} {rest : List Oper} {o : Oper} {act : Act} {Q : Exit → Act → World → Prop} (hgd : o.guard = none) (q x : Operand) (t : TypeId)
    (ho : o.op = .call { callee := .builtin .append, args := #[q, x], argTypes := #[t, t] })
    (e : TypeId) (i : TypeInfo) (z : Value) (bytes : Nat) (ht : P.underlying t = some (.slice e)) (hi : P.info? e = some i) (hz : i.zero = some z) (hsize : i.size = s) (hby : i.bytes = bytes) (hzs : z.cells.size = s)
    {B n c m d b off : Nat} {a : Option Addr} {l l' : List α} (hq : act.eval q = .slice a n c) (hown : OwnI enc s e w B a n c l) (hx : act.eval x = .slice (some ⟨b, off, none⟩) m d) (hnew : Items enc s w (some ⟨b, off, none⟩) m l')
    (hb1 : 0 < bytes) (hbytes : (n + m) * bytes ≤ 140737488355328) (hB : B ≤ w.heap.size)
    (h : ∀ a' c' w', OwnI enc s e w' B a' (n + m) c' (l ++ l') → Below B w w' → wpList P ops Q rest (act.put o.dst (.slice a' (n + m) c')) w') : wpList P ops Q (o :: rest) act w := by
  refine wpList_plain hgd fun K hK => ?_
  have h63 : n + m ≤ maxLen := by
    have := Nat.mul_le_mul_left (n + m) hb1
    unfold maxLen
    omega
  obtain ⟨a', c', w', hr, h2, h3⟩ := run_appI (P := P) (d := d) w hs h0 h1 t o.type e i z bytes ht hi hz hsize hby hzs hown hnew hbytes h63 hB
  unfold Oper.wp execOp
  simp only [ho, resolve, invoke, builtin, Sem.run_bind, Sem.run_pure, Result.andThen_ok, List.map_toArray, List.map_cons, List.map_nil, hq, hx, hr]
  exact hK _ _ (h a' c' w' h2 (grown_to h3 (Below.refl B w) hown.span (Nat.le_refl _) hB))
end
/-- Strings, as elements. -/
def strEnc (x : ByteArray) : List Value := [.string x]
theorem strEnc_len (x : ByteArray) : (strEnc x).length = 1 := rfl
theorem strEnc_one (x : ByteArray) : ∀ u ∈ strEnc x, u.oneCell' = true := by
  intro u hu
  have : u = .string x := by simpa [strEnc] using hu
  subst this
  rfl
end Go.Proofs.Ytjkjnhkamieljaa
namespace Go.Proofs.Ytjkjnhkamieljaa
open Go.ChangeShapes Go.WideShapes Go.ChangeAt Go.RowKit
set_option linter.unusedVariables false

section
variable {α : Type} {enc : α → List Value} {s : Nat}
/-- A step of the cursor leaves what lies in other blocks. -/
theorem OwnI.only {t : TypeId} {w w' : World} {B n c b lo hi : Nat} {a : Option Addr} {l : List α} (h : OwnI enc s t w B a n c l) (ho : Only b w w') (sp : Span a lo hi) (hd : b < lo ∨ hi ≤ b) : OwnI enc s t w' B a n c l := by
  have hg := only_grown ho
  cases a with
  | none => exact ⟨h.1, h.2.kept hg (Or.inl rfl)⟩
  | some ad =>
    have h1 := sp ad rfl
    refine ⟨h.1, h.2.kept hg (Or.inr ?_)⟩
    simp only [Value.ownBlock, ne_eq, Option.some.injEq]
    omega
variable {P : Program} (w : World)
/-- Nothing is appended. -/
theorem run_app_nothingI (B : Nat) (t ty e : TypeId) (i : TypeInfo) (ht : P.underlying t = some (.slice e)) (hi : P.info? e = some i) {v : Value} {n : Nat} {xs : List Value} (hown : w.ownsRow B e s v n xs) (d : Nat) :
    (Builtin.append_ #[t, t] ty #[v, .slice none 0 d]).run P w = .ok v w := by
  rcases hown.2 with ⟨rfl, rfl⟩ | ⟨g, cap, cur, rfl, _, _, hle, _⟩
  · simp [Builtin.append_, run_underlying ht, sizeOf, typeInfo, hi, Builtin.lenOf, Builtin.firstCells]
  · simp [Builtin.append_, run_underlying ht, sizeOf, typeInfo, hi, Builtin.lenOf, Builtin.firstCells, hle, storeCells]
end

def Fd.put (x : Fd) (k : Nat) (v : Int) : Fd := match k with
  | 0 => { x with kind := v }
  | 1 => { x with max := v }
  | 2 => { x with cond := v }
  | _ => { x with is := v }
theorem Fd.put_enc (x : Fd) (k : Nat) (hk : k < 4) (v : Int) : (x.put k v).enc = x.enc.set k (.int .i64 v) := by
  match k, hk with
  | 0, _ => rfl
  | 1, _ => rfl
  | 2, _ => rfl
  | 3, _ => rfl
theorem flat_put : ∀ (l : List Fd) (i k : Nat) (x : Fd) (v : Int), l[i]? = some x → k < 4 → (flatOf Fd.enc l).set (i * 4 + k) (.int .i64 v) = flatOf Fd.enc (l.set i (x.put k v))
  | [], i, k, x, v, h, hk => by simp at h
  | y :: t, 0, k, x, v, h, hk => by
    have : y = x := by simpa using h
    subst this
    have e : flatOf Fd.enc (y :: t) = y.enc ++ flatOf Fd.enc t := by simp [flatOf]
    rw [e, Nat.zero_mul, Nat.zero_add, List.set_append_left _ _ (by rw [Fd.enc_len]; exact hk), ← Fd.put_enc y k hk v, List.set_cons_zero]
    simp [flatOf]
  | y :: t, i + 1, k, x, v, h, hk => by
    have ih := flat_put t i k x v (by simpa using h) hk
    have e : flatOf Fd.enc (y :: t) = y.enc ++ flatOf Fd.enc t := by simp [flatOf]
    rw [e, List.set_append_right _ _ (by rw [Fd.enc_len]; omega), Fd.enc_len, show (i + 1) * 4 + k - 4 = i * 4 + k by omega, ih, List.set_cons_succ]
    simp [flatOf]
/-- Each Max is an integer of 64 bits. -/
def FM (l : List Fd) : Prop := ∀ x ∈ l, I64 x.max
/-- One number is stored into a list of the call's own. -/
theorem ownf_put {t : TypeId} {w : World} {B g n c : Nat} {l : List Fd} (h : OwnF t w B (some ⟨g, 0, none⟩) n c l) {i : Nat} (hi : i < n) (k : Nat) (hk : k < 4) (v : Int) :
    ∃ l', OwnF t (w.setCell ⟨g, i * 4 + k, none⟩ (.int .i64 v)) B (some ⟨g, 0, none⟩) n c l' ∧ w.grownBy (w.setCell ⟨g, i * 4 + k, none⟩ (.int .i64 v)) (some g) ∧ (FM l → I64 v → FM l') := by
  have hs := h.2.stored (i * 4 + k) (.int .i64 v)
  have hl : i < l.length := by rw [h.1]; exact hi
  rw [flat_put l i k _ v (List.getElem?_eq_getElem hl) hk] at hs
  refine ⟨_, ⟨by rw [List.length_set]; exact h.1, hs.1⟩, hs.2, fun hf hv x hx => ?_⟩
  obtain ⟨j, hj⟩ := List.getElem?_of_mem hx
  by_cases e : j = i
  · subst e
    rw [List.getElem?_set_self hl] at hj
    cases hj
    have h0 := hf (l[j]) (List.getElem_mem hl)
    match k, hk with
    | 0, _ => exact h0
    | 1, _ => exact hv
    | 2, _ => exact h0
    | 3, _ => exact h0
  · rw [List.getElem?_set_ne (by omega)] at hj
    exact hf x (List.mem_of_getElem? hj)
/-- A write to a slice of the call's own leaves the cursor. -/
theorem Curs.far {u w : World} {b g : Nat} {a : Option Addr} {n c : Nat} (h : Curs u b a n c) (hg : u.grownBy w (some g)) (h0 : g ≠ b) {v : World} (hv : Curs v b a n c) (hd : Drawn b a n c v u) (hgv : v.heap.size ≤ g) : Drawn b a n c v w :=
  hd.under hv (B := v.heap.size) ⟨hg.os, hg.tape, hg.output, hg.size, fun k hk => hg.block k (Nat.lt_of_lt_of_le hk hd.2.size) (fun e => by cases e; omega)⟩ (Nat.le_refl _)
end Go.Proofs.Ytjkjnhkamieljaa
namespace Go.Proofs.Ytjkjnhkamieljaa
open Go.ChangeShapes Go.WideShapes Go.ChangeAt Go.RowKit
set_option linter.unusedVariables false

theorem infoFieldS : (Try.prog.info? 50).map (fun i => (i.zero, i.size, i.bytes)) = some (some (.agg #[.int .i64 0, .int .i64 0, .int .i64 0, .int .i64 0]), 4, 32) := by kernel_rfl

set_option maxRecDepth 100000 in
theorem szFieldS_any (a : Option Addr) (n c : Nat) (left : Int) (w : World) (h : (n : Int) ≤ left) (hl : left ≤ 1048576) :
    Calls Try.prog 22 #[.slice a n c, .int .i64 left] w fun e w' => e = .returned (.int .i64 (left - n)) ∧ w = w' := by
  go_enter Try.func22, Try.ntmps22
  go_wp2
  go_ret
  exact ⟨rfl, rfl⟩

theorem set4 (A : List Value) (p : Nat) (hA : A.length = p) (a b c d : Value) (R : List Value) (v0 v1 v2 v3 : Value) :
    ((((A ++ a :: b :: c :: d :: R).set p v0).set (p + 1) v1).set (p + 2) v2).set (p + 3) v3 = A ++ v0 :: v1 :: v2 :: v3 :: R := by
  subst hA
  rw [List.set_append_right _ _ (Nat.le_refl _), Nat.sub_self, List.set_cons_zero, List.set_append_right _ _ (by omega), List.set_append_right _ _ (by omega), List.set_append_right _ _ (by omega)]
  simp [show A.length + 1 - A.length = 1 by omega, show A.length + 2 - A.length = 2 by omega, show A.length + 3 - A.length = 3 by omega]
def zeroCell : Value := .int .i64 0
def fillF (l : List Fd) (j n : Nat) : List Value := flatOf Fd.enc (l.take j) ++ List.replicate ((n - j) * 4) zeroCell
theorem fillF_zero (l : List Fd) (n : Nat) : fillF l 0 n = List.replicate (n * 4) zeroCell := by simp [fillF, flatOf]
theorem fillF_all (l : List Fd) (n : Nat) (h : l.length = n) : fillF l n n = flatOf Fd.enc l := by
  unfold fillF
  rw [List.take_of_length_le (by omega), Nat.sub_self]
  simp
theorem fillF_step {l : List Fd} {j n : Nat} {x : Fd} (hj : l[j]? = some x) (hn : l.length = n) :
    ((((fillF l j n).set (j * 4) (.int .i64 x.kind)).set (j * 4 + 1) (.int .i64 x.max)).set (j * 4 + 2) (.int .i64 x.cond)).set (j * 4 + 3) (.int .i64 x.is) = fillF l (j + 1) n := by
  have hlt : j < l.length := by
    rcases Nat.lt_or_ge j l.length with h | h
    · exact h
    · rw [List.getElem?_eq_none h] at hj; cases hj
  unfold fillF
  rw [show (n - j) * 4 = (n - (j + 1)) * 4 + 1 + 1 + 1 + 1 by omega, List.replicate_succ, List.replicate_succ, List.replicate_succ, List.replicate_succ, set4 _ (j * 4) (by rw [flatOf_len Fd.enc_len, List.length_take]; omega), List.take_add_one, hj]
  simp [flatOf, Fd.enc]
theorem fillF_len {l : List Fd} {j n : Nat} (hn : l.length = n) (hj : j ≤ n) : (fillF l j n).length = n * 4 := by
  unfold fillF
  rw [List.length_append, flatOf_len Fd.enc_len, List.length_take, List.length_replicate]
  omega
theorem made4 (n : Nat) : (madeCells (Value.agg #[.int .i64 0, .int .i64 0, .int .i64 0, .int .i64 0]).cells (n * 4)).toList = List.replicate (n * 4) zeroCell := by
  apply List.ext_getElem
  · simp [madeCells]
  · intro i h1 h2
    simp only [madeCells, Value.cells, List.getElem_replicate, Array.getElem_toList, Array.getElem_map, Array.getElem_range]
    have : i % 4 < 4 := Nat.mod_lt _ (by omega)
    show (#[zeroCell, zeroCell, zeroCell, zeroCell] : Array Value)[i % 4]! = zeroCell
    match i % 4, this with
    | 0, _ => rfl
    | 1, _ => rfl
    | 2, _ => rfl
    | 3, _ => rfl

set_option maxRecDepth 100000 in
theorem toField_any (x : Fd) (w : World) : Calls Try.prog 47 #[x.val] w (Told x.val w) := by
  unfold Fd.val
  go_enter Try.func47, Try.ntmps47
  go_wp2
  go_returns
  exact ⟨rfl, (((Below.refl _ w).alloc (Nat.le_refl _) _).alloc (by simp) _).alloc (by simp; omega) _⟩

/-- Cells in a row of the call's own are there, whatever they hold. -/
theorem row_cell {w : World} {B : Nat} {t : TypeId} {s g n cap : Nat} {xs : List Value} (h : w.ownsRow B t s (.slice (some ⟨g, 0, none⟩) n cap) n xs) {k : Nat} (hk : k < n * s) : ∃ u, w.cell? ⟨g, k, none⟩ = some u := by
  rw [h.cellAt k hk]
  have : k < xs.length := by rw [h.1]; exact hk
  exact ⟨_, List.getElem?_eq_getElem this⟩

set_option maxRecDepth 100000 in
theorem toFieldS_any (a : Option Addr) (n c : Nat) (l : List Fd) (w : World) (h : Fds w a n l) (hn : n ≤ 1048576000) :
    Calls Try.prog 24 #[.slice a n c] w (MadeI Fd.enc 4 50 w.heap.size l w) := by
  have H := Lib.hid h
  have hl := Lib.hid h.len
  clear h
  obtain ⟨i0, hi, hz0, hz1, hz2⟩ := info_parts infoFieldS
  go_enter Try.func24, Try.ntmps24
  go_wp2_with (with_reducible refine wpList_make_full _ rfl (.tmp 6) (.tmp 6) 24 rfl w.heap.size 50 i0 (.agg #[.int .i64 0, .int .i64 0, .int .i64 0, .int .i64 0]) 4 Try.underlying24 hi hz0 hz1 .i64 .i64 _ _ n rfl rfl (by omega) (by omega) ?c1 ?c2 ?c3 ?_)
  case c1 => rw [hz2]; omega
  case c2 => unfold maxLen; omega
  case c3 => omega
  intro w1 hown hgrow
  have hb1 : Below w.heap.size w w1 := (Below.refl _ w).grown hgrow (Nat.le_refl _) (fun _ e => by cases e)
  have HO : Hid (w1.ownsRow w.heap.size 50 4 (.slice (some ⟨w.heap.size, 0, none⟩) n n) n (fillF l 0 n)) := by
    rw [fillF_zero, ← made4]
    exact Lib.hid hown
  have HB := Lib.hid hb1
  clear hown hgrow hb1 hi hz0 hz1 hz2
  go_wp2
  go_loopw [4] (fun i wr => ∃ j : Nat, j ≤ n ∧ i = .int .i64 j ∧ wr.ownsRow w.heap.size 50 4 (.slice (some ⟨w.heap.size, 0, none⟩) n n) n (fillF l j n) ∧ Below w.heap.size w wr) (fun i _ => n - (intOf i).toNat)
  case atStart => exact ⟨0, Nat.zero_le _, rfl, HO.out, HB.out⟩
  case round =>
    obtain ⟨j, hj, rfl, hown, hb⟩ := hrel
    have HO2 := Lib.hid hown
    have HB2 := Lib.hid hb
    clear hown hb
    by_cases hlt : j < n
    · obtain ⟨b, o, x, rfl, hx, hc0, hc1, hc2, hc3⟩ := fds_at (H.out.same HB2.out) hlt
      have HX := Lib.hid hx
      clear hx
      go_wp2_with fail
      refine (toField_any x wr).mono ?_
      rintro e w2 ⟨rfl, hb2⟩
      have hrow : w2.ownsRow w.heap.size 50 4 (.slice (some ⟨w.heap.size, 0, none⟩) n n) n (fillF l j n) := HO2.out.kept (grown_below hb2 none) (Or.inr (by simp [Value.ownBlock]))
      have HR := Lib.hid hrow
      have hf0 := hrow.frozenAt (j * 4)
      have hf1 := hrow.frozenAt (j * 4 + 1)
      have hf2 := hrow.frozenAt (j * 4 + 2)
      have hf3 := hrow.frozenAt (j * 4 + 3)
      obtain ⟨u0, hu0⟩ := row_cell hrow (k := j * 4) (by omega)
      obtain ⟨u1, hu1⟩ := row_cell hrow (k := j * 4 + 1) (by omega)
      obtain ⟨u2, hu2⟩ := row_cell hrow (k := j * 4 + 2) (by omega)
      obtain ⟨u3, hu3⟩ := row_cell hrow (k := j * 4 + 3) (by omega)
      have HB3 := Lib.hid (HB2.out.trans (hb2.mono HB2.out.size))
      clear hrow hb2 hc0 hc1 hc2 hc3
      unfold Fd.val
      go_wp2
      go_roundw
      case rel =>
        have hs := stored4 HR.out (j * 4) (j * 4 + 1) (j * 4 + 2) (j * 4 + 3) (.int .i64 x.kind) (.int .i64 x.max) (.int .i64 x.cond) (.int .i64 x.is)
        rw [fillF_step HX.out hl.out] at hs
        exact ⟨j + 1, by omega, by go_num, hs.1, grown_to (b := some ⟨w.heap.size, 0, none⟩) (m := n) (d := n) hs.2 HB3.out (lo := w.heap.size) (hi := w.heap.size + 1) (fun ad e => by cases e; exact ⟨Nat.le_refl _, Nat.lt_succ_self _⟩) (Nat.le_refl _) HB3.out.size⟩
      case measure => simp [intOf]; omega
    · obtain rfl : j = n := by omega
      go_wp2
      go_ret
      have h1 := HO2.out
      rw [fillF_all _ _ hl.out] at h1
      exact ⟨_, _, _, rfl, ⟨hl.out, h1⟩, HB2.out⟩

set_option maxRecDepth 100000 in
theorem eqField_yes (x : Fd) (w : World) : Calls Try.prog 48 #[x.val, x.val] w (Told (.bool true) w) := by
  unfold Fd.val
  go_enter Try.func48, Try.ntmps48
  go_wp2
  go_ret
  exact ⟨rfl, ((Below.refl _ w).alloc (Nat.le_refl _) _).alloc (by simp) _⟩

set_option maxRecDepth 100000 in
theorem eqFieldS_yes (a b : Option Addr) (n m c d : Nat) (l : List Fd) (w : World) (h : Fds w a n l) (h' : Fds w b m l) :
    Calls Try.prog 25 #[.slice a n c, .slice b m d] w (Told (.bool true) w) := by
  obtain rfl : n = m := by rw [← h.len, ← h'.len]
  have hn := h.fits
  have H := Lib.hid h
  have H' := Lib.hid h'
  clear h h'
  go_enter Try.func25, Try.ntmps25
  go_wp2
  go_loopw [5] (fun i wr => ∃ j : Nat, j ≤ n ∧ i = .int .i64 j ∧ Below w.heap.size w wr) (fun i _ => n - (intOf i).toNat)
  case atStart => exact ⟨0, Nat.zero_le _, rfl, Below.refl _ _⟩
  case round =>
    obtain ⟨j, hj, rfl, hb⟩ := hrel
    have HB := Lib.hid hb
    clear hb
    by_cases hlt : j < n
    · obtain ⟨b1, o1, x, rfl, hx, hc0, hc1, hc2, hc3⟩ := fds_at (H.out.same HB.out) hlt
      obtain ⟨b2, o2, y, rfl, hy, hd0, hd1, hd2, hd3⟩ := fds_at (H'.out.same HB.out) hlt
      rw [hx] at hy
      cases hy
      clear hx
      go_wp2_with fail
      go_still_tail 8, (by kernel_rfl)
      have H2 : Hid (Below w.heap.size w wr.drew) := Lib.hid HB.out.drew
      change wpList _ _ _ _ _ wr.drew
      generalize wr.drew = w2 at H2 ⊢
      go_wp2_with fail
      refine (eqField_yes x w2).mono ?_
      rintro e w3 ⟨rfl, hb3⟩
      have HB3 := Lib.hid (H2.out.trans (hb3.mono H2.out.size))
      clear hb3
      go_wp2
      go_roundw
      case rel => exact ⟨j + 1, by omega, by go_num, HB3.out⟩
      case measure => simp [intOf]; omega
    · go_wp2
      go_ret
      exact ⟨rfl, HB.out⟩

end Go.Proofs.Ytjkjnhkamieljaa
namespace Go.Proofs.Ytjkjnhkamieljaa
open Go.ChangeShapes Go.WideShapes Go.ChangeAt Go.RowKit
set_option linter.unusedVariables false

theorem set_below {B : Nat} (w : World) (k o : Nat) (v : Value) (h : B ≤ k) : Below B w (w.setCell ⟨k, o, none⟩ v) := (Below.refl B w).setCell h v
theorem ownf_lit {t : TypeId} (w : World) (x : Fd) {B : Nat} (hB : B ≤ w.heap.size) : OwnF t (w.alloc (.cells #[.int .i64 x.kind, .int .i64 x.max, .int .i64 x.cond, .int .i64 x.is] t)) B (some ⟨w.heap.size, 0, none⟩) 1 1 [x] :=
  ⟨rfl, World.ownsRow_lit w #[.int .i64 x.kind, .int .i64 x.max, .int .i64 x.cond, .int .i64 x.is] 1 hB (by unfold maxLen; omega) rfl⟩
theorem fd_cells (x : Fd) : ∀ u ∈ x.enc, u.oneCell' = true := by
  intro u hu
  simp only [Fd.enc, List.mem_cons, List.not_mem_nil, or_false] at hu
  rcases hu with rfl | rfl | rfl | rfl <;> rfl
/-- What a draw of a list of fields leaves. -/
def DrewF (b : Nat) (a : Option Addr) (n c : Nat) (most : Nat) (w : World) (e : Ending) (w' : World) : Prop :=
  ∃ (a' : Option Addr) (m c' : Nat) (l : List Fd), e = .returned (.slice a' m c') ∧ OwnF 50 w' w.heap.size a' m c' l ∧ m ≤ most ∧ FM l ∧ Drawn b a n c w w'
/-- The first one's Max is small, and each is an integer of 64 bits. -/
def First (l : List Fd) : Prop := (∃ x t, l = x :: t ∧ 1 ≤ x.max ∧ x.max ≤ 9) ∧ FM l
theorem First.app {l m : List Fd} (h : First l) (hm : FM m) : First (l ++ m) := by
  obtain ⟨⟨x, t, rfl, h1⟩, h2⟩ := h
  refine ⟨⟨x, t ++ m, rfl, h1⟩, fun y hy => ?_⟩
  rcases List.mem_append.1 hy with q | q
  · exact h2 y q
  · exact hm y q
theorem fm_one {x : Fd} (h0 : 0 ≤ x.max) (h1 : x.max ≤ 1000) : FM [x] := fun y hy => by
  rw [List.mem_singleton.1 hy]
  exact ⟨by omega, by omega⟩

set_option maxHeartbeats 4000000 in
set_option maxRecDepth 100000 in
theorem drawF_any (b : Nat) (a : Option Addr) (n c : Nat) (w : World) (hc : Curs w b a n c) :
    Calls Try.prog 57 #[.pointer (some ⟨b, 0, none⟩)] w fun e w' => ∃ (g m c' : Nat) (l : List Fd), e = .returned (.slice (some ⟨g, 0, none⟩) m c') ∧ OwnF 50 w' w.heap.size (some ⟨g, 0, none⟩) m c' l ∧ 1 ≤ m ∧ m ≤ 5 ∧ FM l ∧ Drawn b a n c w w' := by
  have HC := Lib.hid hc
  have hb := hc.lt
  clear hc
  obtain ⟨i0, hi, hz0, hz1, hz2⟩ := info_parts infoFieldS
  have HI := Lib.hid (And.intro hi (And.intro hz0 (And.intro hz1 hz2)))
  clear hi hz0 hz1 hz2
  go_enter Try.func57, Try.ntmps57
  go_wp2_with fail
  refine (below_any b a n c 9 (by omega) (by omega) w HC.out).mono ?_
  rintro e w1 ⟨x, hx0, hx1, rfl, hd1⟩
  have hs1 := hd1.2.size
  have HO1 : Hid (OwnF 50 (w1.alloc (.cells #[.int .i64 1, .int .i64 (1 + x), .int .i64 (-1), .int .i64 0] 50)) w.heap.size (some ⟨w1.heap.size, 0, none⟩) 1 1 [⟨1, 1 + x, -1, 0⟩]) := Lib.hid (ownf_lit w1 ⟨1, 1 + x, -1, 0⟩ hs1)
  have HF1 : Hid (First [⟨1, 1 + x, -1, 0⟩]) := Lib.hid ⟨⟨_, _, rfl, by dsimp only; omega, by dsimp only; omega⟩, fm_one (by dsimp only; omega) (by dsimp only; omega)⟩
  have HD1 : Hid (Drawn b a n c w (w1.alloc (.cells #[.int .i64 1, .int .i64 (1 + x), .int .i64 (-1), .int .i64 0] 50))) := Lib.hid (hd1.same (alloc_same _ _))
  clear hd1
  go_wp2_with fail
  refine (below_any b a n c 5 (by omega) (by omega) _ HD1.out.1).mono ?_
  rintro e w2 ⟨y, hy0, hy1, rfl, hd2⟩
  have HO2 := Lib.hid (HO1.out.only hd2.2 HO1.out.span (Or.inl hb))
  have HD2 := Lib.hid (HD1.out.trans hd2)
  clear hd2 HO1 HD1
  go_wp2_with fail
  go_loopw [3, 4] (fun s i wr => ∃ (j g m c' : Nat) (l : List Fd), m + j ≤ 5 ∧ 1 ≤ m ∧ i = .int .i64 j ∧ s = .slice (some ⟨g, 0, none⟩) m c' ∧ OwnF 50 wr w.heap.size (some ⟨g, 0, none⟩) m c' l ∧ First l ∧ Drawn b a n c w wr) (fun _ i _ => (intOf i).toNat)
  case atStart => exact ⟨y.toNat, w1.heap.size, 1, 1, _, by omega, Nat.le_refl _, by rw [Int.toNat_of_nonneg hy0], rfl, HO2.out, HF1.out, HD2.out⟩
  case round =>
    obtain ⟨j, g, m, c', l, hmj, hm1, rfl, rfl, ho, hfi, hd⟩ := hrel
    have HO := Lib.hid ho
    have HF := Lib.hid hfi
    have HD := Lib.hid hd
    have hgw := ho.span _ rfl
    dsimp only at hgw
    clear ho hd
    obtain ⟨⟨z, tl, hl, hz1, hz2⟩, _⟩ := hfi
    have HL := Lib.hid hl
    clear hl
    by_cases hj : 1 ≤ j
    · have e1 : decide ((0 : Int) < (j : Int)) = true := decide_eq_true (by omega)
      go_wp2_with fail
      refine (below_any b a n c 3 (by omega) (by omega) wr HD.out.1).mono ?_
      rintro e v1 ⟨x1, p0, p1, rfl, hd1⟩
      go_wp2_with fail
      refine (below_any b a n c 5 (by omega) (by omega) v1 hd1.1).mono ?_
      rintro e v2 ⟨x2, q0, q1, rfl, hd2⟩
      have HD2' := Lib.hid (hd1.trans hd2)
      have hsz := HD2'.out.2.size
      have hsw := HD.out.2.size
      clear hd1 hd2
      go_wp2_with fail
      refine (once_any b a n c 3 (by omega) (by omega) _ (HD2'.out.1.same (alloc_same _ _))).mono ?_
      rintro e v4 ⟨tb, rfl, hd4⟩
      have hL : v4.heap[v2.heap.size]? = some (.cells #[.int .i64 (1 + x1), .int .i64 (1 + x2), .int .i64 (-1), .int .i64 0] 50 (0, 0)) := by
        rw [hd4.2.block _ (by simp) (by omega)]
        exact heap_alloc_new _ _
      have HX4 : Hid (Only b wr v4) := Lib.hid ((HD2'.out.2.alloc _).trans hd4.2)
      have HC4 : Hid (Curs v4 b a n c) := Lib.hid hd4.1
      have hs4 : v2.heap.size < v4.heap.size := by have := hd4.2.size; simp at this; omega
      clear hd4
      cases tb with
      | false =>
        have c0 := (block_cell hL 0).trans rfl
        have c1 := (block_cell hL 1).trans rfl
        have c2 := (block_cell hL 2).trans rfl
        have c3 := (block_cell hL 3).trans rfl
        have HO4 := Lib.hid (HO.out.only HX4.out HO.out.span (Or.inl hb))
        have HN := Lib.hid (items_new Fd.enc_len v4 ⟨1 + x1, 1 + x2, -1, 0⟩ 50)
        clear hL
        go_wp2_with (at_builtin; refine wpl_appI _ Fd.enc_len (by omega) fd_cells rfl (.tmp 35) (.tmp 37) 24 rfl 50 i0 (.agg #[.int .i64 0, .int .i64 0, .int .i64 0, .int .i64 0]) 32 Try.underlying24 HI.out.1 HI.out.2.1 HI.out.2.2.1 HI.out.2.2.2 rfl rfl (HO4.out.alloc _) rfl HN.out (by omega) ?c4 ?c5 ?_)
        case c4 => omega
        case c5 => simp; omega
        intro a5 c5 w5 ho5 hb5
        obtain ⟨g5, rfl, hg5, hg6⟩ := ho5.head (by omega)
        have HO5 := Lib.hid ho5
        have HD5 : Hid (Drawn b a n c w w5) := Lib.hid ((HD.out.trans ⟨HC4.out, HX4.out⟩).under HC.out ((alloc_same v4 _).mono (by omega) |>.trans hb5) (Nat.le_refl _))
        clear ho5 hb5 c0 c1 c2 c3
        go_wp2
        go_roundw
        case rel => exact ⟨j - 1, g5, m + 1, c5, _, by omega, by omega, by go_num, by simp, HO5.out, HF.out.app (fm_one (by dsimp only; omega) (by dsimp only; omega)), HD5.out⟩
        case measure => simp [intOf]; omega
      | true =>
        have c0 := (block_cell hL 0).trans rfl
        have c1 := (block_cell hL 1).trans rfl
        have c2 := (block_cell hL 2).trans rfl
        have c3 := (block_cell hL 3).trans rfl
        have f2 := block_frozen hL 2
        have HB5 : Hid (Below v2.heap.size v4 (v4.setCell ⟨v2.heap.size, 2, none⟩ (.int .i64 0))) := Lib.hid (set_below _ _ _ _ (Nat.le_refl _))
        have HX5 := Lib.hid (HX4.out.under HB5.out hsz)
        have HC5 := Lib.hid (HC4.out.under HD2'.out.1 HB5.out (Nat.le_refl _))
        have hL5 := heap_setCell_same v4 v2.heap.size 2 _ _ (.int .i64 0) hL
        have HO4 := HO.out.only HX4.out HO.out.span (Or.inl hb)
        have HO5 := Lib.hid (HO.out.only HX5.out HO.out.span (Or.inl hb))
        have hz4 : v4.cell? ⟨g, 1, none⟩ = some (.int .i64 z.max) := by
          obtain ⟨b', o', e, hcc⟩ := (HO4.items Fd.enc_len).cell 0 z (by rw [HL.out]; rfl)
          cases e
          exact hcc 1 _ rfl
        have hz5 : (v4.setCell ⟨v2.heap.size, 2, none⟩ (.int .i64 0)).cell? ⟨g, 1, none⟩ = some (.int .i64 z.max) := by
          obtain ⟨b', o', e, hcc⟩ := (HO5.out.items Fd.enc_len).cell 0 z (by rw [HL.out]; rfl)
          cases e
          exact hcc 1 _ rfl
        have H5 := Lib.hid hL5
        clear hL HO4 hL5
        go_wp2_with fail
        refine (below_any b a n c (z.max + 1) (by omega) (by omega) _ HC5.out).mono ?_
        rintro e v6 ⟨x3, r0, r1, rfl, hd6⟩
        have hL6 : v6.heap[v2.heap.size]? = some (.cells #[.int .i64 (1 + x1), .int .i64 (1 + x2), .int .i64 0, .int .i64 0] 50 (0, 0)) := by
          rw [hd6.2.block _ (by simp; omega) (by omega)]
          exact H5.out
        have hs6 : v4.heap.size ≤ v6.heap.size := by have := hd6.2.size; simp at this; omega
        have HX6 := Lib.hid (HX5.out.trans hd6.2)
        have HC6 := Lib.hid hd6.1
        clear hd6 c0 c1 c2 c3 f2 hz4 hz5
        have c3 := (block_cell hL6 3).trans rfl
        have f3 := block_frozen hL6 3
        have HB7 : Hid (Below v2.heap.size v6 (v6.setCell ⟨v2.heap.size, 3, none⟩ (.int .i64 x3))) := Lib.hid (set_below _ _ _ _ (Nat.le_refl _))
        have HX7 := Lib.hid (HX6.out.under HB7.out hsz)
        have HC7 := Lib.hid (HC6.out.under HD2'.out.1 HB7.out (Nat.le_refl _))
        have hL7 := heap_setCell_same v6 v2.heap.size 3 _ _ (.int .i64 x3) hL6
        have HO7 := Lib.hid (HO.out.only HX7.out HO.out.span (Or.inl hb))
        have d0 := (block_cell hL7 0).trans rfl
        have d1 := (block_cell hL7 1).trans rfl
        have d2 := (block_cell hL7 2).trans rfl
        have d3 := (block_cell hL7 3).trans rfl
        have e0 := (block_cell hL6 0).trans rfl
        have e1 := (block_cell hL6 1).trans rfl
        have e2 := (block_cell hL6 2).trans rfl
        have hn := items_new Fd.enc_len (v6.setCell ⟨v2.heap.size, 3, none⟩ (.int .i64 x3)) ⟨1 + x1, 1 + x2, 0, x3⟩ 50
        have hs7 : (v6.setCell ⟨v2.heap.size, 3, none⟩ (.int .i64 x3)).heap.size = v6.heap.size := by simp
        rw [hs7] at hn
        have HN := Lib.hid hn
        clear hn
        clear hL6 hL7
        go_wp2_with (at_builtin; refine wpl_appI _ Fd.enc_len (by omega) fd_cells rfl (.tmp 35) (.tmp 37) 24 rfl 50 i0 (.agg #[.int .i64 0, .int .i64 0, .int .i64 0, .int .i64 0]) 32 Try.underlying24 HI.out.1 HI.out.2.1 HI.out.2.2.1 HI.out.2.2.2 rfl rfl (HO7.out.alloc _) rfl HN.out (by omega) ?c4 ?c5 ?_)
        case c4 => omega
        case c5 => simp; omega
        intro a8 c8 w8 ho8 hb8
        obtain ⟨g8, rfl, hg8, hg9⟩ := ho8.head (by omega)
        have HO8 := Lib.hid ho8
        have HD8 : Hid (Drawn b a n c w w8) := Lib.hid ((HD.out.trans ⟨HC7.out, HX7.out⟩).under HC.out ((alloc_same _ _).mono (by rw [hs7]; omega) |>.trans hb8) (Nat.le_refl _))
        clear ho8 hb8 d0 d1 d2 d3 c3 e0 e1 e2
        go_wp2
        go_roundw
        case rel => exact ⟨j - 1, g8, m + 1, c8, _, by omega, by omega, by go_num, by simp, HO8.out, HF.out.app (fm_one (by dsimp only; omega) (by dsimp only; omega)), HD8.out⟩
        case measure => simp [intOf]; omega
    · obtain rfl : j = 0 := by omega
      go_wp2
      go_ret
      exact ⟨g, m, c', l, rfl, HO.out, hm1, by omega, HF.out.2, HD.out⟩
end Go.Proofs.Ytjkjnhkamieljaa
