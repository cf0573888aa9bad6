/- Items are appended to a slice of the call's own that is not nil; three cells of a block. No function of the program is spoken of. A machine in a box of the call's own, whose two slices are the call's own: a cursor's steps, appends, single cells. No function of the program is spoken of. -/
import Derived.Test.YtckmgbobkffabaaGreatG4
import Derived.Test.YtckmgbobkffabaaGreatG5
import Derived.Test.YtckmgbobkffabaaGreatG2
import Derived.Test.YtckmgbobkffabaaGreatG6
import Derived.Test.YtckmgbobkffabaaGreatG1
namespace Go.Proofs.YtckmgbobkffabaaGreat
open Go.ChangeShapes Go.WideShapes Go.ChangeAt Go.RowKit
set_option linter.unusedVariables false

section
variable {α : Type} {enc : α → List Value} {s : Nat} {P : Program} (w : World)
theorem run_app_zeroI {g n c d : Nat} {b : Option Addr} (t ty e : TypeId) (i : TypeInfo) (ht : P.underlying t = some (.slice e)) (hi : P.info? e = some i) (hn : n ≤ c) :
  (Builtin.append_ #[t, t] ty #[.slice (some ⟨g, 0, none⟩) n c, .slice b 0 d]).run P w = .ok (.slice (some ⟨g, 0, none⟩) n c) w := by
 cases b with
 | none => simp [Builtin.append_, run_underlying ht, sizeOf, typeInfo, hi, Builtin.lenOf, Builtin.firstCells, hn, storeCells]
 | some ad => simp [Builtin.append_, run_underlying ht, sizeOf, typeInfo, hi, Builtin.lenOf, Builtin.firstCells, hn, storeCells, loadCells, loadCellsFrom]
/-- Items are appended to a slice of the call's own that is not nil: nor is the new one. -/
theorem run_app_someI (hs : ∀ x, (enc x).length = s) (h0 : 0 < s) (h1 : ∀ x, ∀ u ∈ enc x, u.oneCell' = true) (t ty e : TypeId) (i : TypeInfo) (z : Value) (bytes : Nat) (ht : P.underlying t = some (.slice e)) (hi : P.info? e = some i) (hz : i.zero = some z) (hsize : i.size = s) (hby : i.bytes = bytes) (hzs : z.cells.size = s)
  {B n c m d g : Nat} {b : Option Addr} {l l' : List α} (ho : OwnI enc s e w B (some ⟨g, 0, none⟩) n c l) (hn : Items enc s w b m l') (hbytes : (n + m) * bytes ≤ 140737488355328) (h63 : n + m ≤ maxLen) (hB : B ≤ w.heap.size) :
  ∃ g' c' w', (Builtin.append_ #[t, t] ty #[.slice (some ⟨g, 0, none⟩) n c, .slice b m d]).run P w = .ok (.slice (some ⟨g', 0, none⟩) (n + m) c') w' ∧ OwnI enc s e w' B (some ⟨g', 0, none⟩) (n + m) c' (l ++ l') ∧ w.grownBy w' (some g) ∧ (g' = g ∨ g' = w.heap.size) := by
 rcases Nat.eq_zero_or_pos m with k0 | k0
 ·subst k0
  have hl : l' = [] := List.eq_nil_of_length_eq_zero hn.len
  subst hl
  refine ⟨g, c, w, run_app_zeroI w t ty e i ht hi ho.room.1, ?_, grown_below (Below.refl _ _) _, Or.inl rfl⟩
  rw [List.append_nil]; exact ho
 ·obtain ⟨b0, o0, x, rfl, _, _⟩ := hn.at_ k0
  obtain ⟨v', w', hr, h2, h3, _, h5⟩ := run_append_own_at (P := P) w B t ty e i z s bytes ht hi hz hsize hby hzs h0 (.slice (some ⟨g, 0, none⟩) n c) n (flatOf enc l) ho.2 ⟨b0, o0, none⟩ m d (flatOf enc l') (by rw [flatOf_len hs, hn.len]) (items_flat hs h0 hn) (fun u hu => by
   obtain ⟨x, _, hx⟩ := List.mem_flatMap.1 hu
   exact h1 x u hx) h63 hbytes hB
  rw [← flatOf_app] at h2
  have hl : (l ++ l').length = n + m := by rw [List.length_append, ho.1, hn.len]
  rcases h2.2 with ⟨rfl, hn'⟩ | ⟨g', cap, cur, rfl, hrest⟩
  ·omega
  ·refine ⟨g', cap, w', hr, ⟨hl, h2⟩, h3, ?_⟩
   simpa [Value.ownBlock] using h5
theorem wpl_app_someI (hs : ∀ x, (enc x).length = s) (h0 : 0 < s) (h1 : ∀ x, ∀ u ∈ enc x, u.oneCell' = true) {ops : Array Oper} {rest : List Oper} {o : Oper} {act : Act} {Q : Exit → Act → World → Prop} (hgd : o.guard = none) (q x : Operand) (t : TypeId)
  (ho : o.op = .call { callee := .builtin .append, args := #[q, x], argTypes := #[t, t] })
  (e : TypeId) (i : TypeInfo) (z : Value) (bytes : Nat) (ht : P.underlying t = some (.slice e)) (hi : P.info? e = some i) (hz : i.zero = some z) (hsize : i.size = s) (hby : i.bytes = bytes) (hzs : z.cells.size = s)
  {B n c m d g : Nat} {b : Option Addr} {l l' : List α} (hq : act.eval q = .slice (some ⟨g, 0, none⟩) n c) (hown : OwnI enc s e w B (some ⟨g, 0, none⟩) n c l) (hx : act.eval x = .slice b m d) (hnew : Items enc s w b m l')
  (hb1 : 0 < bytes) (hbytes : (n + m) * bytes ≤ 140737488355328) (hB : B ≤ w.heap.size)
  (h : ∀ g' c' w', OwnI enc s e w' B (some ⟨g', 0, none⟩) (n + m) c' (l ++ l') → Below B w w' → wpList P ops Q rest (act.put o.dst (.slice (some ⟨g', 0, none⟩) (n + m) c')) w') : wpList P ops Q (o :: rest) act w := by
 refine wpList_plain hgd fun K hK => ?_
 have h63 : n + m ≤ maxLen := by
  have := Nat.mul_le_mul_left (n + m) hb1
  unfold maxLen
  omega
 obtain ⟨g', c', w', hr, h2, h3⟩ := run_app_someI (P := P) (d := d) w hs h0 h1 t o.type e i z bytes ht hi hz hsize hby hzs hown hnew hbytes h63 hB
 unfold Oper.wp execOp
 simp only [ho, resolve, invoke, builtin, Sem.run_bind, Sem.run_pure, Result.andThen_ok, List.map_toArray, List.map_cons, List.map_nil, hq, hx, hr]
 exact hK _ _ (h g' c' w' h2 (grown_to (b := some ⟨g, 0, none⟩) (m := n) (d := c) h3.1 (Below.refl B w) hown.span (Nat.le_refl _) hB))
/-- The same at a step of a region that draws its order. -/
theorem step_app_someI (hs : ∀ x, (enc x).length = s) (h0 : 0 < s) (h1 : ∀ x, ∀ u ∈ enc x, u.oneCell' = true) {ops : Array Oper} {o : Oper} {act : Act} {K : Act → World → Prop} {Q : Exit → Act → World → Prop} {E : Prop} (hgd : o.guard = none) (q x : Operand) (t : TypeId)
  (ho : o.op = .call { callee := .builtin .append, args := #[q, x], argTypes := #[t, t] })
  (e : TypeId) (i : TypeInfo) (z : Value) (bytes : Nat) (ht : P.underlying t = some (.slice e)) (hi : P.info? e = some i) (hz : i.zero = some z) (hsize : i.size = s) (hby : i.bytes = bytes) (hzs : z.cells.size = s)
  {B n c m d g : Nat} {b : Option Addr} {l l' : List α} (hq : act.eval q = .slice (some ⟨g, 0, none⟩) n c) (hown : OwnI enc s e w B (some ⟨g, 0, none⟩) n c l) (hx : act.eval x = .slice b m d) (hnew : Items enc s w b m l')
  (hb1 : 0 < bytes) (hbytes : (n + m) * bytes ≤ 140737488355328) (hB : B ≤ w.heap.size)
  (h : ∀ g' c' w', OwnI enc s e w' B (some ⟨g', 0, none⟩) (n + m) c' (l ++ l') → w.grownBy w' (some g) → (g' = g ∨ g' = w.heap.size) → K (act.put o.dst (.slice (some ⟨g', 0, none⟩) (n + m) c')) w') :
  if Region.wanted o (yielded ops act.tmps) = true then Oper.wp P o act w K Q else E := by
 have hw : Region.wanted o (yielded ops act.tmps) = true := by simp [Region.wanted, hgd]
 rw [if_pos hw]
 have h63 : n + m ≤ maxLen := by
  have := Nat.mul_le_mul_left (n + m) hb1
  unfold maxLen
  omega
 obtain ⟨g', c', w', hr, h2, h3⟩ := run_app_someI (P := P) (d := d) w hs h0 h1 t o.type e i z bytes ht hi hz hsize hby hzs hown hnew hbytes h63 hB
 unfold Oper.wp execOp
 simp only [ho, resolve, invoke, builtin, Sem.run_bind, Sem.run_pure, Result.andThen_ok, List.map_toArray, List.map_cons, List.map_nil, hq, hx, hr]
 exact h g' c' w' h2 h3.1 h3.2
end
theorem own_emptyI {α : Type} {enc : α → List Value} {s : Nat} {w : World} {B : Nat} (t : TypeId) (hB : B ≤ w.heap.size) : OwnI enc s t (w.alloc (.cells #[] t)) B (some ⟨w.heap.size, 0, none⟩) 0 0 [] :=
 ⟨rfl, by simp [flatOf], .inr ⟨w.heap.size, 0, #[], rfl, hB, heap_alloc_new _ _, Nat.le_refl _, Nat.zero_le _, by simp, by simp [flatOf]⟩⟩

theorem three_cells {w : World} {g : Nat} {t : TypeId} {a b c : Value} (h : w.heap[g]? = some (.cells #[a, b, c] t (0, 0))) :
  w.cell? ⟨g, 0, none⟩ = some a ∧ w.cell? ⟨g, 1, none⟩ = some b ∧ w.cell? ⟨g, 2, none⟩ = some c ∧ w.frozen? ⟨g, 0, none⟩ = false ∧ w.frozen? ⟨g, 1, none⟩ = false ∧ w.frozen? ⟨g, 2, none⟩ = false :=
 ⟨(block_cell h 0).trans rfl, (block_cell h 1).trans rfl, (block_cell h 2).trans rfl, block_frozen h 0, block_frozen h 1, block_frozen h 2⟩
theorem three_put {w : World} {g : Nat} {t : TypeId} {a b c : Value} (h : w.heap[g]? = some (.cells #[a, b, c] t (0, 0))) (p q r : Value) :
  (w.setCell ⟨g, 0, none⟩ p).cell? ⟨g, 0, none⟩ = some p ∧ ((w.setCell ⟨g, 0, none⟩ p).setCell ⟨g, 1, none⟩ q).cell? ⟨g, 1, none⟩ = some q ∧
  (((w.setCell ⟨g, 0, none⟩ p).setCell ⟨g, 1, none⟩ q).setCell ⟨g, 2, none⟩ r).cell? ⟨g, 2, none⟩ = some r ∧ (((w.setCell ⟨g, 0, none⟩ p).setCell ⟨g, 1, none⟩ q).setCell ⟨g, 2, none⟩ r).heap[g]? = some (.cells #[p, q, r] t (0, 0)) := by
 have h1 := heap_setCell_same w g 0 _ _ p h
 have h2 := heap_setCell_same _ g 1 _ _ q h1
 have h3 := heap_setCell_same _ g 2 _ _ r h2
 exact ⟨(block_cell h1 0).trans rfl, (block_cell h2 1).trans rfl, (block_cell h3 2).trans rfl, h3⟩
/-- A box of three cells, and a second one. -/
theorem twice (w : World) (c1 c2 : Array Value) (t1 t2 : TypeId) : Below w.heap.size w ((w.alloc (.cells c1 t1)).alloc (.cells c2 t2)) ∧ ((w.alloc (.cells c1 t1)).alloc (.cells c2 t2)).heap[w.heap.size]? = some (.cells c1 t1 (0, 0)) ∧
  ((w.alloc (.cells c1 t1)).alloc (.cells c2 t2)).heap[w.heap.size + 1]? = some (.cells c2 t2 (0, 0)) ∧ ((w.alloc (.cells c1 t1)).alloc (.cells c2 t2)).heap.size = w.heap.size + 2 := by
 refine ⟨((Below.refl _ w).alloc (Nat.le_refl _) _).alloc (by simp) _, ?_, ?_, by simp⟩
 ·rw [Below.heap_alloc _ _ _ (by simp)]
  exact heap_alloc_new w (.cells c1 t1 (0, 0))
 ·have := heap_alloc_new (w.alloc (.cells c1 t1)) (.cells c2 t2 (0, 0))
  simpa using this
theorem cell_apart {w w' : World} {ad : Addr} {v : Value} {row : Option Nat} (h : w.cell? ad = some v) (hg : w.grownBy w' row) (hr : row ≠ some ad.block) : w'.cell? ad = some v := by
 have e := hg.block _ (cell_in h) hr.symm
 unfold World.cell? at h ⊢
 rw [e]
 exact h
theorem put_grown (w : World) (b o : Nat) (v : Value) : w.grownBy (w.setCell ⟨b, o, none⟩ v) (some b) :=
 ⟨rfl, rfl, rfl, ((Below.refl 0 w).setCell (Nat.zero_le _) v).size, fun i hi hne => Below.heap_setCell _ _ _ _ (fun e => hne (by rw [e]))⟩
end Go.Proofs.YtckmgbobkffabaaGreat
namespace Go.Proofs.YtckmgbobkffabaaGreat
open Go.ChangeShapes Go.WideShapes Go.ChangeAt Go.RowKit
set_option linter.unusedVariables false

/-- Block G holds the machine x; its slices lie in blocks of the call's own, from B on, apart from each other and from G. -/
structure BoxM (B : Nat) (w : World) (G : Nat) (x : Mac) (p : Option Addr) (k r : Nat) (q : Option Addr) (m d : Nat) : Prop where
 base : B ≤ G
 heap : w.heap[G]? = some (.cells #[.int .i64 x.st, .slice p k r, .slice q m d] 27 (0, 0))
 ends : OwnBl 4 w B p k r x.ends
 moves : OwnM 43 w B q m d x.moves
 sep : Sep p q
 pG : ∀ ad, p = some ad → ad.block ≠ G
 qG : ∀ ad, q = some ad → ad.block ≠ G
section
variable {B G k r m d : Nat} {w w' : World} {x : Mac} {p q : Option Addr}
theorem BoxM.lt (h : BoxM B w G x p k r q m d) : G < w.heap.size := (Array.getElem?_eq_some_iff.1 h.heap).1
theorem BoxM.mac (h : BoxM B w G x p k r q m d) : MacW w (.agg #[.int .i64 x.st, .slice p k r, .slice q m d]) x :=
 ⟨p, k, r, q, m, d, rfl, h.ends.items blEnc_len, h.moves.items Mv.enc_len, h.ends.room, h.moves.room⟩
theorem BoxM.same (h : BoxM B w G x p k r q m d) (hb : Below w.heap.size w w') : BoxM B w' G x p k r q m d :=
 ⟨h.base, (hb.block G h.lt).trans h.heap, h.ends.same hb, h.moves.same hb, h.sep, h.pG, h.qG⟩
theorem BoxM.only {b : Nat} (h : BoxM B w G x p k r q m d) (ho : Only b w w') (hb : b < B) : BoxM B w' G x p k r q m d :=
 ⟨h.base, (ho.block G h.lt (by have := h.base; omega)).trans h.heap, h.ends.only ho h.ends.span (Or.inl hb), h.moves.only ho h.moves.span (Or.inl hb), h.sep, h.pG, h.qG⟩
theorem BoxM.out (h : BoxM B w G x p k r q m d) {S : Nat} (hS : S = w.heap.size) {B' : Nat} (hB : B' ≤ B) : OwnMac S w B' (.agg #[.int .i64 x.st, .slice p k r, .slice q m d]) x :=
 ⟨p, k, r, q, m, d, rfl, h.ends.lower hB, h.moves.lower hB, h.sep, hS ▸ (h.ends.span.mono hB (Nat.le_refl _)), hS ▸ (h.moves.span.mono hB (Nat.le_refl _)), by omega, h.ends.room, h.moves.room⟩
/-- Where an append's outcome lies: in the old block or in the newest one. -/
def Where (w : World) (a a' : Option Addr) : Prop := ∀ ad, a' = some ad → (∃ ad0, a = some ad0 ∧ ad.block = ad0.block) ∨ ad.block = w.heap.size
/-- A move is appended and the slice stored. -/
theorem BoxM.pushM (h : BoxM B w G x p k r q m d) {w5 : World} {q5 : Option Addr} {y5 : Nat} {z : Mv} (ho : OwnM 43 w5 B q5 (m + 1) y5 (x.moves ++ [z])) (hg : w.grownBy w5 (Value.ownBlock (.slice q m d))) (hw : Where w q q5) :
  BoxM B (w5.setCell ⟨G, 2, none⟩ (.slice q5 (m + 1 : Nat) y5)) G ⟨x.st, x.ends, x.moves ++ [z]⟩ p k r q5 (m + 1) y5 ∧ Below B w (w5.setCell ⟨G, 2, none⟩ (.slice q5 (m + 1 : Nat) y5)) := by
 have hne : some G ≠ Value.ownBlock (.slice q m d) := fun e => by
  obtain ⟨ad, e1, e2⟩ := block_of e.symm
  exact h.qG ad e1 e2
 have h5 : w5.heap[G]? = some (.cells #[.int .i64 x.st, .slice p k r, .slice q m d] 27 (0, 0)) := (hg.block G h.lt hne).trans h.heap
 have hq5 : ∀ ad, q5 = some ad → ad.block ≠ G := fun ad e => by
  rcases hw ad e with ⟨ad0, e0, e1⟩ | e1
  ·rw [e1]; exact h.qG ad0 e0
  ·have := h.lt; omega
 refine ⟨⟨h.base, heap_setCell_same w5 G 2 _ _ _ h5, (OwnI.sep h.ends hg h.sep).set (fun ad e => h.pG ad e) _, ho.set (fun ad e => hq5 ad e) _, fun f g ef eg => ?_, h.pG, hq5⟩, ?_⟩
 ·rcases hw g eg with ⟨ad0, e0, e1⟩ | e1
  ·rw [e1]; exact h.sep f ad0 ef e0
  ·have := (h.ends.span f ef).2
   omega
 ·have h0 := h.base
  exact (grown_to hg (Below.refl B w) h.moves.span (Nat.le_refl _) (by have := h.lt; omega)).setCell (by dsimp only; omega) _
/-- A bool is appended and the slice stored. -/
theorem BoxM.pushE (h : BoxM B w G x p k r q m d) {w5 : World} {p5 : Option Addr} {y5 : Nat} {z : Bool} (ho : OwnBl 4 w5 B p5 (k + 1) y5 (x.ends ++ [z])) (hg : w.grownBy w5 (Value.ownBlock (.slice p k r))) (hw : Where w p p5) :
  BoxM B (w5.setCell ⟨G, 1, none⟩ (.slice p5 (k + 1 : Nat) y5)) G ⟨x.st, x.ends ++ [z], x.moves⟩ p5 (k + 1) y5 q m d ∧ Below B w (w5.setCell ⟨G, 1, none⟩ (.slice p5 (k + 1 : Nat) y5)) := by
 have hne : some G ≠ Value.ownBlock (.slice p k r) := fun e => by
  obtain ⟨ad, e1, e2⟩ := block_of e.symm
  exact h.pG ad e1 e2
 have h5 : w5.heap[G]? = some (.cells #[.int .i64 x.st, .slice p k r, .slice q m d] 27 (0, 0)) := (hg.block G h.lt hne).trans h.heap
 have hp5 : ∀ ad, p5 = some ad → ad.block ≠ G := fun ad e => by
  rcases hw ad e with ⟨ad0, e0, e1⟩ | e1
  ·rw [e1]; exact h.pG ad0 e0
  ·have := h.lt; omega
 refine ⟨⟨h.base, heap_setCell_same w5 G 1 _ _ _ h5, ho.set (fun ad e => hp5 ad e) _, (OwnI.sep h.moves hg h.sep.symm).set (fun ad e => h.qG ad e) _, fun f g ef eg => ?_, hp5, h.qG⟩, ?_⟩
 ·rcases hw f ef with ⟨ad0, e0, e1⟩ | e1
  ·rw [e1]; exact h.sep ad0 g e0 eg
  ·have := (h.moves.span g eg).2
   omega
 ·have h0 := h.base
  exact (grown_to hg (Below.refl B w) h.ends.span (Nat.le_refl _) (by have := h.lt; omega)).setCell (by dsimp only; omega) _
/-- One cell of a move is written to. -/
theorem BoxM.putM {g i j : Nat} {y z : Mv} {v : Value} (h : BoxM B w G x p k r (some ⟨g, 0, none⟩) m d) (hx : x.moves[j]? = some z) (hi : i < 4) (he : y.enc = z.enc.set i v) :
  BoxM B (w.setCell ⟨g, j * 4 + i, none⟩ v) G ⟨x.st, x.ends, x.moves.set j y⟩ p k r (some ⟨g, 0, none⟩) m d ∧ Below B w (w.setCell ⟨g, j * 4 + i, none⟩ v) := by
 have hs := own_putI Mv.enc_len h.moves hx hi he
 have hgG := h.qG _ rfl
 have hgB := (h.moves.span _ rfl).1
 refine ⟨⟨h.base, (Below.heap_setCell _ _ _ _ (by dsimp only at hgG ⊢; omega)).trans h.heap, h.ends.set (p := ⟨g, j * 4 + i, none⟩) (fun ad e => h.sep ad ⟨g, 0, none⟩ e rfl) _, hs.1, h.sep, h.pG, h.qG⟩, (Below.refl B w).setCell (p := ⟨g, j * 4 + i, none⟩) hgB _⟩
/-- The number of states is written to. -/
theorem BoxM.putS (h : BoxM B w G x p k r q m d) (s : Int) : BoxM B (w.setCell ⟨G, 0, none⟩ (.int .i64 s)) G ⟨s, x.ends, x.moves⟩ p k r q m d ∧ Below B w (w.setCell ⟨G, 0, none⟩ (.int .i64 s)) :=
 ⟨⟨h.base, heap_setCell_same w G 0 _ _ _ h.heap, h.ends.set (fun ad e => h.pG ad e) _, h.moves.set (fun ad e => h.qG ad e) _, h.sep, h.pG, h.qG⟩, (Below.refl B w).setCell h.base _⟩
end
section
variable {α : Type} {enc : α → List Value} {s : Nat} {P : Program} (w : World)
theorem run_appW (hs : ∀ x, (enc x).length = s) (h0 : 0 < s) (h1 : ∀ x, ∀ u ∈ enc x, u.oneCell' = true) (t ty e : TypeId) (i : TypeInfo) (z : Value) (bytes : Nat) (ht : P.underlying t = some (.slice e)) (hi : P.info? e = some i) (hz : i.zero = some z) (hsize : i.size = s) (hby : i.bytes = bytes) (hzs : z.cells.size = s)
  {B n c m d b o : Nat} {a : Option Addr} {l l' : List α} (ho : OwnI enc s e w B a n c l) (hn : Items enc s w (some ⟨b, o, none⟩) m l') (hbytes : (n + m) * bytes ≤ 140737488355328) (h63 : n + m ≤ maxLen) (hB : B ≤ w.heap.size) :
  ∃ a' c' w', (Builtin.append_ #[t, t] ty #[.slice a n c, .slice (some ⟨b, o, none⟩) m d]).run P w = .ok (.slice a' (n + m) c') w' ∧ OwnI enc s e w' B a' (n + m) c' (l ++ l') ∧ w.grownBy w' (Value.ownBlock (.slice a n c)) ∧ Where w a a' := by
 obtain ⟨v', w', hr, h2, h3, _, h5⟩ := run_append_own_at (P := P) w B t ty e i z s bytes ht hi hz hsize hby hzs h0 (.slice a n c) n (flatOf enc l) ho.2 ⟨b, o, none⟩ m d (flatOf enc l') (by rw [flatOf_len hs, hn.len]) (items_flat hs h0 hn) (fun u hu => by
   obtain ⟨x, _, hx⟩ := List.mem_flatMap.1 hu
   exact h1 x u hx) h63 hbytes hB
 rw [← flatOf_app] at h2
 have hl : (l ++ l').length = n + m := by rw [List.length_append, ho.1, hn.len]
 rcases h2.2 with ⟨rfl, hn'⟩ | ⟨g, cap, cur, rfl, hrest⟩
 ·exact ⟨none, 0, w', by rw [hn']; exact hr, ⟨hl, by rw [hn'] at h2 ⊢; exact h2⟩, h3, fun ad e => by cases e⟩
 ·refine ⟨_, cap, w', hr, ⟨hl, h2⟩, h3, fun ad e => ?_⟩
  cases e
  rcases h5 with e5 | e5
  ·obtain ⟨ad0, e1, e2⟩ := block_of e5.symm
   exact Or.inl ⟨ad0, e1, e2.symm⟩
  ·exact Or.inr (by simpa [Value.ownBlock] using e5)
theorem wpl_appW (hs : ∀ x, (enc x).length = s) (h0 : 0 < s) (h1 : ∀ x, ∀ u ∈ enc x, u.oneCell' = true) {ops : Array Oper} {rest : List Oper} {o : Oper} {act : Act} {Q : Exit → Act → World → Prop} (hgd : o.guard = none) (q x : Operand) (t : TypeId)
  (ho : o.op = .call { callee := .builtin .append, args := #[q, x], argTypes := #[t, t] })
  (e : TypeId) (i : TypeInfo) (z : Value) (bytes : Nat) (ht : P.underlying t = some (.slice e)) (hi : P.info? e = some i) (hz : i.zero = some z) (hsize : i.size = s) (hby : i.bytes = bytes) (hzs : z.cells.size = s)
  {B n c m d b off : Nat} {a : Option Addr} {l l' : List α} (hq : act.eval q = .slice a n c) (hown : OwnI enc s e w B a n c l) (hx : act.eval x = .slice (some ⟨b, off, none⟩) m d) (hnew : Items enc s w (some ⟨b, off, none⟩) m l')
  (hb1 : 0 < bytes) (hbytes : (n + m) * bytes ≤ 140737488355328) (hB : B ≤ w.heap.size)
  (h : ∀ a' c' w', OwnI enc s e w' B a' (n + m) c' (l ++ l') → w.grownBy w' (Value.ownBlock (.slice a n c)) → Where w a a' → wpList P ops Q rest (act.put o.dst (.slice a' (n + m) c')) w') : wpList P ops Q (o :: rest) act w := by
 refine wpList_plain hgd fun K hK => ?_
 have h63 : n + m ≤ maxLen := by
  have := Nat.mul_le_mul_left (n + m) hb1
  unfold maxLen
  omega
 obtain ⟨a', c', w', hr, h2, h3, h4⟩ := run_appW (P := P) (d := d) w hs h0 h1 t o.type e i z bytes ht hi hz hsize hby hzs hown hnew hbytes h63 hB
 unfold Oper.wp execOp
 simp only [ho, resolve, invoke, builtin, Sem.run_bind, Sem.run_pure, Result.andThen_ok, List.map_toArray, List.map_cons, List.map_nil, hq, hx, hr]
 exact hK _ _ (h a' c' w' h2 h3 h4)
theorem step_appW (hs : ∀ x, (enc x).length = s) (h0 : 0 < s) (h1 : ∀ x, ∀ u ∈ enc x, u.oneCell' = true) {ops : Array Oper} {o : Oper} {act : Act} {K : Act → World → Prop} {Q : Exit → Act → World → Prop} {E : Prop} (hgd : o.guard = none) (q x : Operand) (t : TypeId)
  (ho : o.op = .call { callee := .builtin .append, args := #[q, x], argTypes := #[t, t] })
  (e : TypeId) (i : TypeInfo) (z : Value) (bytes : Nat) (ht : P.underlying t = some (.slice e)) (hi : P.info? e = some i) (hz : i.zero = some z) (hsize : i.size = s) (hby : i.bytes = bytes) (hzs : z.cells.size = s)
  {B n c m d b off : Nat} {a : Option Addr} {l l' : List α} (hq : act.eval q = .slice a n c) (hown : OwnI enc s e w B a n c l) (hx : act.eval x = .slice (some ⟨b, off, none⟩) m d) (hnew : Items enc s w (some ⟨b, off, none⟩) m l')
  (hb1 : 0 < bytes) (hbytes : (n + m) * bytes ≤ 140737488355328) (hB : B ≤ w.heap.size)
  (h : ∀ a' c' w', OwnI enc s e w' B a' (n + m) c' (l ++ l') → w.grownBy w' (Value.ownBlock (.slice a n c)) → Where w a a' → K (act.put o.dst (.slice a' (n + m) c')) w') :
  if Region.wanted o (yielded ops act.tmps) = true then Oper.wp P o act w K Q else E := by
 have hw : Region.wanted o (yielded ops act.tmps) = true := by simp [Region.wanted, hgd]
 rw [if_pos hw]
 have h63 : n + m ≤ maxLen := by
  have := Nat.mul_le_mul_left (n + m) hb1
  unfold maxLen
  omega
 obtain ⟨a', c', w', hr, h2, h3, h4⟩ := run_appW (P := P) (d := d) w hs h0 h1 t o.type e i z bytes ht hi hz hsize hby hzs hown hnew hbytes h63 hB
 unfold Oper.wp execOp
 simp only [ho, resolve, invoke, builtin, Sem.run_bind, Sem.run_pure, Result.andThen_ok, List.map_toArray, List.map_cons, List.map_nil, hq, hx, hr]
 exact h a' c' w' h2 h3 h4
end
theorem four_at9 {w : World} {g : Nat} {t : TypeId} {a b c d : Value} (h : w.heap[g]? = some (.cells #[a, b, c, d] t (0, 0))) :
  w.cell? ⟨g, 0, none⟩ = some a ∧ w.cell? ⟨g, 1, none⟩ = some b ∧ w.cell? ⟨g, 2, none⟩ = some c ∧ w.cell? ⟨g, 3, none⟩ = some d :=
 ⟨(block_cell h 0).trans rfl, (block_cell h 1).trans rfl, (block_cell h 2).trans rfl, (block_cell h 3).trans rfl⟩
theorem four_put9 {w : World} {g : Nat} {t : TypeId} {a b c d : Value} (h : w.heap[g]? = some (.cells #[a, b, c, d] t (0, 0))) (p q r s : Value) :
  ((((w.setCell ⟨g, 0, none⟩ p).setCell ⟨g, 1, none⟩ q).setCell ⟨g, 2, none⟩ r).setCell ⟨g, 3, none⟩ s).heap[g]? = some (.cells #[p, q, r, s] t (0, 0)) :=
 heap_setCell_same _ g 3 _ _ s (heap_setCell_same _ g 2 _ _ r (heap_setCell_same _ g 1 _ _ q (heap_setCell_same w g 0 _ _ p h)))
/-- What a drawn machine keeps to. -/
def OkMac (x : Mac) : Prop := x.ends.length ≤ 5 ∧ x.moves.length ≤ 9 ∧ ∀ z ∈ x.moves, I64 z.msg ∧ I64 z.to
/-- What a function leaves that draws a machine. -/
def DrewMac (b : Nat) (a : Option Addr) (n c : Nat) (w : World) (e : Ending) (w' : World) : Prop :=
 ∃ v x, e = .returned v ∧ OwnMac w'.heap.size w' w.heap.size v x ∧ OkMac x ∧ Drawn b a n c w w'
end Go.Proofs.YtckmgbobkffabaaGreat
