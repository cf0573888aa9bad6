/- Lists of fields that are being drawn: what a step of the cursor leaves; one number stored into one of them. A machine in a box of the call's own, whose two slices are the call's own: a cursor's steps, appends, single cells. No function of the program is spoken of. -/
import Derived.Test.YtckmgbobkffabaaG36
import Derived.Test.YtckmgbobkffabaaG12
import Derived.Test.YtckmgbobkffabaaG11
import Derived.Test.YtckmgbobkffabaaG1
namespace Go.Proofs.Ytckmgbobkffabaa
open Go.ChangeShapes Go.WideShapes Go.ChangeAt Go.RowKit
set_option linter.unusedVariables false

section
variable {α : Type} {enc : α → List Value} {s : Nat}
/-- A step of the cursor leaves what lies in other blocks. -/
theorem OwnI.only {t : TypeId} {w w' : World} {B n c b lo hi : Nat} {a : Option Addr} {l : List α} (h : OwnI enc s t w B a n c l) (ho : Only b w w') (sp : Span a lo hi) (hd : b < lo ∨ hi ≤ b) : OwnI enc s t w' B a n c l := by
 have hg := only_grown ho
 cases a with
 | none => exact ⟨h.1, h.2.kept hg (Or.inl rfl)⟩
 | some ad =>
  have h1 := sp ad rfl
  refine ⟨h.1, h.2.kept hg (Or.inr ?_)⟩
  simp only [Value.ownBlock, ne_eq, Option.some.injEq]
  omega
variable {P : Program} (w : World)
/-- Nothing is appended. -/
theorem run_app_nothingI (B : Nat) (t ty e : TypeId) (i : TypeInfo) (ht : P.underlying t = some (.slice e)) (hi : P.info? e = some i) {v : Value} {n : Nat} {xs : List Value} (hown : w.ownsRow B e s v n xs) (d : Nat) :
  (Builtin.append_ #[t, t] ty #[v, .slice none 0 d]).run P w = .ok v w := by
 rcases hown.2 with ⟨rfl, rfl⟩ | ⟨g, cap, cur, rfl, _, _, hle, _⟩
 ·simp [Builtin.append_, run_underlying ht, sizeOf, typeInfo, hi, Builtin.lenOf, Builtin.firstCells]
 ·simp [Builtin.append_, run_underlying ht, sizeOf, typeInfo, hi, Builtin.lenOf, Builtin.firstCells, hle, storeCells]
end

def Fd.put (x : Fd) (k : Nat) (v : Int) : Fd := match k with
 | 0 => { x with kind := v }
 | 1 => { x with max := v }
 | 2 => { x with cond := v }
 | _ => { x with is := v }
theorem Fd.put_enc (x : Fd) (k : Nat) (hk : k < 4) (v : Int) : (x.put k v).enc = x.enc.set k (.int .i64 v) := by
 match k, hk with
 | 0, _ => rfl
 | 1, _ => rfl
 | 2, _ => rfl
 | 3, _ => rfl
theorem flat_put : ∀ (l : List Fd) (i k : Nat) (x : Fd) (v : Int), l[i]? = some x → k < 4 → (flatOf Fd.enc l).set (i * 4 + k) (.int .i64 v) = flatOf Fd.enc (l.set i (x.put k v))
 | [], i, k, x, v, h, hk => by simp at h
 | y :: t, 0, k, x, v, h, hk => by
  have : y = x := by simpa using h
  subst this
  have e : flatOf Fd.enc (y :: t) = y.enc ++ flatOf Fd.enc t := by simp [flatOf]
  rw [e, Nat.zero_mul, Nat.zero_add, List.set_append_left _ _ (by rw [Fd.enc_len]; exact hk), ← Fd.put_enc y k hk v, List.set_cons_zero]
  simp [flatOf]
 | y :: t, i + 1, k, x, v, h, hk => by
  have ih := flat_put t i k x v (by simpa using h) hk
  have e : flatOf Fd.enc (y :: t) = y.enc ++ flatOf Fd.enc t := by simp [flatOf]
  rw [e, List.set_append_right _ _ (by rw [Fd.enc_len]; omega), Fd.enc_len, show (i + 1) * 4 + k - 4 = i * 4 + k by omega, ih, List.set_cons_succ]
  simp [flatOf]
/-- Each Max is an integer of 64 bits. -/
def FM (l : List Fd) : Prop := ∀ x ∈ l, I64 x.max
/-- One number is stored into a list of the call's own. -/
theorem ownf_put {t : TypeId} {w : World} {B g n c : Nat} {l : List Fd} (h : OwnF t w B (some ⟨g, 0, none⟩) n c l) {i : Nat} (hi : i < n) (k : Nat) (hk : k < 4) (v : Int) :
  ∃ l', OwnF t (w.setCell ⟨g, i * 4 + k, none⟩ (.int .i64 v)) B (some ⟨g, 0, none⟩) n c l' ∧ w.grownBy (w.setCell ⟨g, i * 4 + k, none⟩ (.int .i64 v)) (some g) ∧ (FM l → I64 v → FM l') := by
 have hs := h.2.stored (i * 4 + k) (.int .i64 v)
 have hl : i < l.length := by rw [h.1]; exact hi
 rw [flat_put l i k _ v (List.getElem?_eq_getElem hl) hk] at hs
 refine ⟨_, ⟨by rw [List.length_set]; exact h.1, hs.1⟩, hs.2, fun hf hv x hx => ?_⟩
 obtain ⟨j, hj⟩ := List.getElem?_of_mem hx
 by_cases e : j = i
 ·subst e
  rw [List.getElem?_set_self hl] at hj
  cases hj
  have h0 := hf (l[j]) (List.getElem_mem hl)
  match k, hk with
  | 0, _ => exact h0
  | 1, _ => exact hv
  | 2, _ => exact h0
  | 3, _ => exact h0
 ·rw [List.getElem?_set_ne (by omega)] at hj
  exact hf x (List.mem_of_getElem? hj)
/-- A write to a slice of the call's own leaves the cursor. -/
theorem Curs.far {u w : World} {b g : Nat} {a : Option Addr} {n c : Nat} (h : Curs u b a n c) (hg : u.grownBy w (some g)) (h0 : g ≠ b) {v : World} (hv : Curs v b a n c) (hd : Drawn b a n c v u) (hgv : v.heap.size ≤ g) : Drawn b a n c v w :=
 hd.under hv (B := v.heap.size) ⟨hg.os, hg.tape, hg.output, hg.size, fun k hk => hg.block k (Nat.lt_of_lt_of_le hk hd.2.size) (fun e => by cases e; omega)⟩ (Nat.le_refl _)
end Go.Proofs.Ytckmgbobkffabaa
namespace Go.Proofs.Ytckmgbobkffabaa
open Go.ChangeShapes Go.WideShapes Go.ChangeAt Go.RowKit
set_option linter.unusedVariables false

/-- Block G holds the machine x; its slices lie in blocks of the call's own, from B on, apart from each other and from G. -/
structure BoxM (B : Nat) (w : World) (G : Nat) (x : Mac) (p : Option Addr) (k r : Nat) (q : Option Addr) (m d : Nat) : Prop where
 base : B ≤ G
 heap : w.heap[G]? = some (.cells #[.int .i64 x.st, .slice p k r, .slice q m d] 27 (0, 0))
 ends : OwnBl 4 w B p k r x.ends
 moves : OwnM 63 w B q m d x.moves
 sep : Sep p q
 pG : ∀ ad, p = some ad → ad.block ≠ G
 qG : ∀ ad, q = some ad → ad.block ≠ G
section
variable {B G k r m d : Nat} {w w' : World} {x : Mac} {p q : Option Addr}
theorem BoxM.lt (h : BoxM B w G x p k r q m d) : G < w.heap.size := (Array.getElem?_eq_some_iff.1 h.heap).1
theorem BoxM.mac (h : BoxM B w G x p k r q m d) : MacW w (.agg #[.int .i64 x.st, .slice p k r, .slice q m d]) x :=
 ⟨p, k, r, q, m, d, rfl, h.ends.items blEnc_len, h.moves.items Mv.enc_len, h.ends.room, h.moves.room⟩
theorem BoxM.same (h : BoxM B w G x p k r q m d) (hb : Below w.heap.size w w') : BoxM B w' G x p k r q m d :=
 ⟨h.base, (hb.block G h.lt).trans h.heap, h.ends.same hb, h.moves.same hb, h.sep, h.pG, h.qG⟩
theorem BoxM.only {b : Nat} (h : BoxM B w G x p k r q m d) (ho : Only b w w') (hb : b < B) : BoxM B w' G x p k r q m d :=
 ⟨h.base, (ho.block G h.lt (by have := h.base; omega)).trans h.heap, h.ends.only ho h.ends.span (Or.inl hb), h.moves.only ho h.moves.span (Or.inl hb), h.sep, h.pG, h.qG⟩
theorem BoxM.out (h : BoxM B w G x p k r q m d) {S : Nat} (hS : S = w.heap.size) {B' : Nat} (hB : B' ≤ B) : OwnMac S w B' (.agg #[.int .i64 x.st, .slice p k r, .slice q m d]) x :=
 ⟨p, k, r, q, m, d, rfl, h.ends.lower hB, h.moves.lower hB, h.sep, hS ▸ (h.ends.span.mono hB (Nat.le_refl _)), hS ▸ (h.moves.span.mono hB (Nat.le_refl _)), by omega, h.ends.room, h.moves.room⟩
/-- Where an append's outcome lies: in the old block or in the newest one. -/
def Where (w : World) (a a' : Option Addr) : Prop := ∀ ad, a' = some ad → (∃ ad0, a = some ad0 ∧ ad.block = ad0.block) ∨ ad.block = w.heap.size
/-- A move is appended and the slice stored. -/
theorem BoxM.pushM (h : BoxM B w G x p k r q m d) {w5 : World} {q5 : Option Addr} {y5 : Nat} {z : Mv} (ho : OwnM 63 w5 B q5 (m + 1) y5 (x.moves ++ [z])) (hg : w.grownBy w5 (Value.ownBlock (.slice q m d))) (hw : Where w q q5) :
  BoxM B (w5.setCell ⟨G, 2, none⟩ (.slice q5 (m + 1 : Nat) y5)) G ⟨x.st, x.ends, x.moves ++ [z]⟩ p k r q5 (m + 1) y5 ∧ Below B w (w5.setCell ⟨G, 2, none⟩ (.slice q5 (m + 1 : Nat) y5)) := by
 have hne : some G ≠ Value.ownBlock (.slice q m d) := fun e => by
  obtain ⟨ad, e1, e2⟩ := block_of e.symm
  exact h.qG ad e1 e2
 have h5 : w5.heap[G]? = some (.cells #[.int .i64 x.st, .slice p k r, .slice q m d] 27 (0, 0)) := (hg.block G h.lt hne).trans h.heap
 have hq5 : ∀ ad, q5 = some ad → ad.block ≠ G := fun ad e => by
  rcases hw ad e with ⟨ad0, e0, e1⟩ | e1
  ·rw [e1]; exact h.qG ad0 e0
  ·have := h.lt; omega
 refine ⟨⟨h.base, heap_setCell_same w5 G 2 _ _ _ h5, (OwnI.sep h.ends hg h.sep).set (fun ad e => h.pG ad e) _, ho.set (fun ad e => hq5 ad e) _, fun f g ef eg => ?_, h.pG, hq5⟩, ?_⟩
 ·rcases hw g eg with ⟨ad0, e0, e1⟩ | e1
  ·rw [e1]; exact h.sep f ad0 ef e0
  ·have := (h.ends.span f ef).2
   omega
 ·have h0 := h.base
  exact (grown_to hg (Below.refl B w) h.moves.span (Nat.le_refl _) (by have := h.lt; omega)).setCell (by dsimp only; omega) _
/-- A bool is appended and the slice stored. -/
theorem BoxM.pushE (h : BoxM B w G x p k r q m d) {w5 : World} {p5 : Option Addr} {y5 : Nat} {z : Bool} (ho : OwnBl 4 w5 B p5 (k + 1) y5 (x.ends ++ [z])) (hg : w.grownBy w5 (Value.ownBlock (.slice p k r))) (hw : Where w p p5) :
  BoxM B (w5.setCell ⟨G, 1, none⟩ (.slice p5 (k + 1 : Nat) y5)) G ⟨x.st, x.ends ++ [z], x.moves⟩ p5 (k + 1) y5 q m d ∧ Below B w (w5.setCell ⟨G, 1, none⟩ (.slice p5 (k + 1 : Nat) y5)) := by
 have hne : some G ≠ Value.ownBlock (.slice p k r) := fun e => by
  obtain ⟨ad, e1, e2⟩ := block_of e.symm
  exact h.pG ad e1 e2
 have h5 : w5.heap[G]? = some (.cells #[.int .i64 x.st, .slice p k r, .slice q m d] 27 (0, 0)) := (hg.block G h.lt hne).trans h.heap
 have hp5 : ∀ ad, p5 = some ad → ad.block ≠ G := fun ad e => by
  rcases hw ad e with ⟨ad0, e0, e1⟩ | e1
  ·rw [e1]; exact h.pG ad0 e0
  ·have := h.lt; omega
 refine ⟨⟨h.base, heap_setCell_same w5 G 1 _ _ _ h5, ho.set (fun ad e => hp5 ad e) _, (OwnI.sep h.moves hg h.sep.symm).set (fun ad e => h.qG ad e) _, fun f g ef eg => ?_, hp5, h.qG⟩, ?_⟩
 ·rcases hw f ef with ⟨ad0, e0, e1⟩ | e1
  ·rw [e1]; exact h.sep ad0 g e0 eg
  ·have := (h.moves.span g eg).2
   omega
 ·have h0 := h.base
  exact (grown_to hg (Below.refl B w) h.ends.span (Nat.le_refl _) (by have := h.lt; omega)).setCell (by dsimp only; omega) _
/-- One cell of a move is written to. -/
theorem BoxM.putM {g i j : Nat} {y z : Mv} {v : Value} (h : BoxM B w G x p k r (some ⟨g, 0, none⟩) m d) (hx : x.moves[j]? = some z) (hi : i < 4) (he : y.enc = z.enc.set i v) :
  BoxM B (w.setCell ⟨g, j * 4 + i, none⟩ v) G ⟨x.st, x.ends, x.moves.set j y⟩ p k r (some ⟨g, 0, none⟩) m d ∧ Below B w (w.setCell ⟨g, j * 4 + i, none⟩ v) := by
 have hs := own_putI Mv.enc_len h.moves hx hi he
 have hgG := h.qG _ rfl
 have hgB := (h.moves.span _ rfl).1
 refine ⟨⟨h.base, (Below.heap_setCell _ _ _ _ (by dsimp only at hgG ⊢; omega)).trans h.heap, h.ends.set (p := ⟨g, j * 4 + i, none⟩) (fun ad e => h.sep ad ⟨g, 0, none⟩ e rfl) _, hs.1, h.sep, h.pG, h.qG⟩, (Below.refl B w).setCell (p := ⟨g, j * 4 + i, none⟩) hgB _⟩
/-- The number of states is written to. -/
theorem BoxM.putS (h : BoxM B w G x p k r q m d) (s : Int) : BoxM B (w.setCell ⟨G, 0, none⟩ (.int .i64 s)) G ⟨s, x.ends, x.moves⟩ p k r q m d ∧ Below B w (w.setCell ⟨G, 0, none⟩ (.int .i64 s)) :=
 ⟨⟨h.base, heap_setCell_same w G 0 _ _ _ h.heap, h.ends.set (fun ad e => h.pG ad e) _, h.moves.set (fun ad e => h.qG ad e) _, h.sep, h.pG, h.qG⟩, (Below.refl B w).setCell h.base _⟩
end
section
variable {α : Type} {enc : α → List Value} {s : Nat} {P : Program} (w : World)
theorem run_appW (hs : ∀ x, (enc x).length = s) (h0 : 0 < s) (h1 : ∀ x, ∀ u ∈ enc x, u.oneCell' = true) (t ty e : TypeId) (i : TypeInfo) (z : Value) (bytes : Nat) (ht : P.underlying t = some (.slice e)) (hi : P.info? e = some i) (hz : i.zero = some z) (hsize : i.size = s) (hby : i.bytes = bytes) (hzs : z.cells.size = s)
  {B n c m d b o : Nat} {a : Option Addr} {l l' : List α} (ho : OwnI enc s e w B a n c l) (hn : Items enc s w (some ⟨b, o, none⟩) m l') (hbytes : (n + m) * bytes ≤ 140737488355328) (h63 : n + m ≤ maxLen) (hB : B ≤ w.heap.size) :
  ∃ a' c' w', (Builtin.append_ #[t, t] ty #[.slice a n c, .slice (some ⟨b, o, none⟩) m d]).run P w = .ok (.slice a' (n + m) c') w' ∧ OwnI enc s e w' B a' (n + m) c' (l ++ l') ∧ w.grownBy w' (Value.ownBlock (.slice a n c)) ∧ Where w a a' := by
 obtain ⟨v', w', hr, h2, h3, _, h5⟩ := run_append_own_at (P := P) w B t ty e i z s bytes ht hi hz hsize hby hzs h0 (.slice a n c) n (flatOf enc l) ho.2 ⟨b, o, none⟩ m d (flatOf enc l') (by rw [flatOf_len hs, hn.len]) (items_flat hs h0 hn) (fun u hu => by
   obtain ⟨x, _, hx⟩ := List.mem_flatMap.1 hu
   exact h1 x u hx) h63 hbytes hB
 rw [← flatOf_app] at h2
 have hl : (l ++ l').length = n + m := by rw [List.length_append, ho.1, hn.len]
 rcases h2.2 with ⟨rfl, hn'⟩ | ⟨g, cap, cur, rfl, hrest⟩
 ·exact ⟨none, 0, w', by rw [hn']; exact hr, ⟨hl, by rw [hn'] at h2 ⊢; exact h2⟩, h3, fun ad e => by cases e⟩
 ·refine ⟨_, cap, w', hr, ⟨hl, h2⟩, h3, fun ad e => ?_⟩
  cases e
  rcases h5 with e5 | e5
  ·obtain ⟨ad0, e1, e2⟩ := block_of e5.symm
   exact Or.inl ⟨ad0, e1, e2.symm⟩
  ·exact Or.inr (by simpa [Value.ownBlock] using e5)
theorem wpl_appW (hs : ∀ x, (enc x).length = s) (h0 : 0 < s) (h1 : ∀ x, ∀ u ∈ enc x, u.oneCell' = true) {ops : Array Oper} {rest : List Oper} {o : Oper} {act : Act} {Q : Exit → Act → World → Prop} (hgd : o.guard = none) (q x : Operand) (t : TypeId)
  (ho : o.op = .call { callee := .builtin .append, args := #[q, x], argTypes := #[t, t] })
  (e : TypeId) (i : TypeInfo) (z : Value) (bytes : Nat) (ht : P.underlying t = some (.slice e)) (hi : P.info? e = some i) (hz : i.zero = some z) (hsize : i.size = s) (hby : i.bytes = bytes) (hzs : z.cells.size = s)
  {B n c m d b off : Nat} {a : Option Addr} {l l' : List α} (hq : act.eval q = .slice a n c) (hown : OwnI enc s e w B a n c l) (hx : act.eval x = .slice (some ⟨b, off, none⟩) m d) (hnew : Items enc s w (some ⟨b, off, none⟩) m l')
  (hb1 : 0 < bytes) (hbytes : (n + m) * bytes ≤ 140737488355328) (hB : B ≤ w.heap.size)
  (h : ∀ a' c' w', OwnI enc s e w' B a' (n + m) c' (l ++ l') → w.grownBy w' (Value.ownBlock (.slice a n c)) → Where w a a' → wpList P ops Q rest (act.put o.dst (.slice a' (n + m) c')) w') : wpList P ops Q (o :: rest) act w := by
 refine wpList_plain hgd fun K hK => ?_
 have h63 : n + m ≤ maxLen := by
  have := Nat.mul_le_mul_left (n + m) hb1
  unfold maxLen
  omega
 obtain ⟨a', c', w', hr, h2, h3, h4⟩ := run_appW (P := P) (d := d) w hs h0 h1 t o.type e i z bytes ht hi hz hsize hby hzs hown hnew hbytes h63 hB
 unfold Oper.wp execOp
 simp only [ho, resolve, invoke, builtin, Sem.run_bind, Sem.run_pure, Result.andThen_ok, List.map_toArray, List.map_cons, List.map_nil, hq, hx, hr]
 exact hK _ _ (h a' c' w' h2 h3 h4)
theorem step_appW (hs : ∀ x, (enc x).length = s) (h0 : 0 < s) (h1 : ∀ x, ∀ u ∈ enc x, u.oneCell' = true) {ops : Array Oper} {o : Oper} {act : Act} {K : Act → World → Prop} {Q : Exit → Act → World → Prop} {E : Prop} (hgd : o.guard = none) (q x : Operand) (t : TypeId)
  (ho : o.op = .call { callee := .builtin .append, args := #[q, x], argTypes := #[t, t] })
  (e : TypeId) (i : TypeInfo) (z : Value) (bytes : Nat) (ht : P.underlying t = some (.slice e)) (hi : P.info? e = some i) (hz : i.zero = some z) (hsize : i.size = s) (hby : i.bytes = bytes) (hzs : z.cells.size = s)
  {B n c m d b off : Nat} {a : Option Addr} {l l' : List α} (hq : act.eval q = .slice a n c) (hown : OwnI enc s e w B a n c l) (hx : act.eval x = .slice (some ⟨b, off, none⟩) m d) (hnew : Items enc s w (some ⟨b, off, none⟩) m l')
  (hb1 : 0 < bytes) (hbytes : (n + m) * bytes ≤ 140737488355328) (hB : B ≤ w.heap.size)
  (h : ∀ a' c' w', OwnI enc s e w' B a' (n + m) c' (l ++ l') → w.grownBy w' (Value.ownBlock (.slice a n c)) → Where w a a' → K (act.put o.dst (.slice a' (n + m) c')) w') :
  if Region.wanted o (yielded ops act.tmps) = true then Oper.wp P o act w K Q else E := by
 have hw : Region.wanted o (yielded ops act.tmps) = true := by simp [Region.wanted, hgd]
 rw [if_pos hw]
 have h63 : n + m ≤ maxLen := by
  have := Nat.mul_le_mul_left (n + m) hb1
  unfold maxLen
  omega
 obtain ⟨a', c', w', hr, h2, h3, h4⟩ := run_appW (P := P) (d := d) w hs h0 h1 t o.type e i z bytes ht hi hz hsize hby hzs hown hnew hbytes h63 hB
 unfold Oper.wp execOp
 simp only [ho, resolve, invoke, builtin, Sem.run_bind, Sem.run_pure, Result.andThen_ok, List.map_toArray, List.map_cons, List.map_nil, hq, hx, hr]
 exact h a' c' w' h2 h3 h4
end
theorem four_at9 {w : World} {g : Nat} {t : TypeId} {a b c d : Value} (h : w.heap[g]? = some (.cells #[a, b, c, d] t (0, 0))) :
  w.cell? ⟨g, 0, none⟩ = some a ∧ w.cell? ⟨g, 1, none⟩ = some b ∧ w.cell? ⟨g, 2, none⟩ = some c ∧ w.cell? ⟨g, 3, none⟩ = some d :=
 ⟨(block_cell h 0).trans rfl, (block_cell h 1).trans rfl, (block_cell h 2).trans rfl, (block_cell h 3).trans rfl⟩
theorem four_put9 {w : World} {g : Nat} {t : TypeId} {a b c d : Value} (h : w.heap[g]? = some (.cells #[a, b, c, d] t (0, 0))) (p q r s : Value) :
  ((((w.setCell ⟨g, 0, none⟩ p).setCell ⟨g, 1, none⟩ q).setCell ⟨g, 2, none⟩ r).setCell ⟨g, 3, none⟩ s).heap[g]? = some (.cells #[p, q, r, s] t (0, 0)) :=
 heap_setCell_same _ g 3 _ _ s (heap_setCell_same _ g 2 _ _ r (heap_setCell_same _ g 1 _ _ q (heap_setCell_same w g 0 _ _ p h)))
/-- What a drawn machine keeps to. -/
def OkMac (x : Mac) : Prop := x.ends.length ≤ 5 ∧ x.moves.length ≤ 9 ∧ ∀ z ∈ x.moves, I64 z.msg ∧ I64 z.to
/-- What a function leaves that draws a machine. -/
def DrewMac (b : Nat) (a : Option Addr) (n c : Nat) (w : World) (e : Ending) (w' : World) : Prop :=
 ∃ v x, e = .returned v ∧ OwnMac w'.heap.size w' w.heap.size v x ∧ OkMac x ∧ Drawn b a n c w w'
end Go.Proofs.Ytckmgbobkffabaa
