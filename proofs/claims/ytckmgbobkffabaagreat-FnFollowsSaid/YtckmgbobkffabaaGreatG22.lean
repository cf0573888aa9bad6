/- A list of pairs behind a pointer: a pair is put behind the others. Pairs that are reached, whatever says which ones follow; what two machines do together. No function of the program is spoken of. -/
import Derived.Test.YtckmgbobkffabaaGreatG21
import Derived.Deep.RegionHeld3
import Derived.Deep.QuietTactic
import Derived.BigQuiet
import Derived.RegionTactic
import Derived.Handy
import Derived.Test.YtckmgbobkffabaaGreatG18
import Derived.Test.YtckmgbobkffabaaGreatG1
namespace Go.Proofs.YtckmgbobkffabaaGreat
open Go.ChangeShapes Go.WideShapes Go.ChangeAt Go.RowKit
set_option linter.unusedVariables false
set_option linter.unusedSimpArgs false

theorem infoR : (Tryz.prog.info? 36).map (fun i => (i.zero, i.size, i.bytes)) = some (some (.slice none 0 0), 1, 24) := by kernel_rfl
section
variable {rs : List Nat} {S : Nat} {w w' : World} {B g n c : Nat} {l : List (Int × Int)}
/-- Another block was written to. -/
theorem OwnRs.other {q : Nat} (h : OwnRs rs S w B g n c l) (hg : w.grownBy w' (some q)) (h1 : q ≠ g) (h2 : q ∉ rs) : OwnRs rs S w' B g n c l := by
 have ht := h.top
 refine ⟨⟨h.own.1, h.own.2.kept hg (Or.inr ?_)⟩, h.len, fun j r p a1 a2 => ?_, h.out, h.inc, h.lo, h.hi, Nat.le_trans ht hg.size⟩
 ·simp only [Value.ownBlock, ne_eq, Option.some.injEq]
  omega
 ·have hm := List.mem_of_getElem? a1
  have := (h.out r hm).2.1
  rw [hg.block r (by omega) (fun e => h2 (by cases e; exact hm))]
  exact h.row j r p a1 a2
/-- Rows are appended to a list of rows that is not nil; where it lies then. -/
theorem wpl_app_rows {P : Program} {ops : Array Oper} {rest : List Oper} {o : Oper} {act : Act} {Q : Exit → Act → World → Prop} (hgd : o.guard = none) (q x : Operand) (t : TypeId)
  (ho : o.op = .call { callee := .builtin .append, args := #[q, x], argTypes := #[t, t] })
  (e : TypeId) (i : TypeInfo) (z : Value) (bytes : Nat) (ht : P.underlying t = some (.slice e)) (hi : P.info? e = some i) (hz : i.zero = some z) (hsize : i.size = 1) (hby : i.bytes = bytes) (hzs : z.cells.size = 1)
  {B n c m d g : Nat} {b : Option Addr} {l l' : List Nat} (hq : act.eval q = .slice (some ⟨g, 0, none⟩) n c) (hown : OwnI rowEnc 1 e w B (some ⟨g, 0, none⟩) n c l) (hx : act.eval x = .slice b m d) (hnew : Items rowEnc 1 w b m l')
  (hb1 : 0 < bytes) (hbytes : (n + m) * bytes ≤ 140737488355328) (hB : B ≤ w.heap.size)
  (h : ∀ g' c' w', OwnI rowEnc 1 e w' B (some ⟨g', 0, none⟩) (n + m) c' (l ++ l') → w.grownBy w' (some g) → (g' = g ∨ g' = w.heap.size) → wpList P ops Q rest (act.put o.dst (.slice (some ⟨g', 0, none⟩) (n + m) c')) w') : wpList P ops Q (o :: rest) act w := by
 refine wpList_plain hgd fun K hK => ?_
 have h63 : n + m ≤ maxLen := by
  have := Nat.mul_le_mul_left (n + m) hb1
  unfold maxLen
  omega
 obtain ⟨g', c', w', hr, h2, h3, h4⟩ := run_app_someI (P := P) (d := d) w rowEnc_len (by omega) rowEnc_one t o.type e i z bytes ht hi hz hsize hby hzs hown hnew hbytes h63 hB
 unfold Oper.wp execOp
 simp only [ho, resolve, invoke, builtin, Sem.run_bind, Sem.run_pure, Result.andThen_ok, List.map_toArray, List.map_cons, List.map_nil, hq, hx, hr]
 exact hK _ _ (h g' c' w' h2 h3 h4)
end
/-- The variable gp holds a list of pairs of the call's own. -/
structure BoxR (gp : Nat) (rs : List Nat) (w : World) (B g n c : Nat) (l : List (Int × Int)) : Prop where
 box : w.heap[gp]? = some (.cells #[.slice (some ⟨g, 0, none⟩) n c] 77 (0, 0))
 rows : OwnRs rs w.heap.size w B g n c l
 ne : gp ≠ g
 nin : gp ∉ rs
 lo : B ≤ gp
/-- Only the blocks g and q have changed, or new ones. -/
structure But (g q : Nat) (w w' : World) : Prop where
 os : w'.os = w.os
 tape : w'.tape = w.tape
 output : w'.output = w.output
 size : w.heap.size ≤ w'.heap.size
 block : ∀ k, k < w.heap.size → k ≠ g → k ≠ q → w'.heap[k]? = w.heap[k]?
theorem But.below {g q B0 : Nat} {w0 w w' : World} (h : But g q w w') (hb : Below B0 w0 w) (h1 : B0 ≤ g) (h2 : B0 ≤ q) (h3 : B0 ≤ w.heap.size) : Below B0 w0 w' :=
 hb.trans ⟨h.os, h.tape, h.output, h.size, fun k hk => h.block k (by omega) (by omega) (by omega)⟩
theorem But.map {g q b n : Nat} {w w' : World} {P : Program} {k : TypeId} {R : Value → Option (DataW Unit × List MemPlace)} {D : DataW Unit} (h : But g q w w') (hm : w.ownsMap P k R b n D) (h1 : b ≠ g) (h2 : b ≠ q) : w'.ownsMap P k R b n D := by
 have hlt := hm.lt
 obtain ⟨es, ck, e1, F, e2, e3⟩ := hm
 exact ⟨es, ck, (h.block b hlt h1 h2).trans e1, F, e2, e3⟩
set_option maxHeartbeats 1000000 in
set_option maxRecDepth 100000 in
theorem add_any {gp : Nat} {rs : List Nat} {w : World} {B g n c : Nat} {l : List (Int × Int)} (x y : Int) (h : BoxR gp rs w B g n c l) (hn : n ≤ 1000000000) :
  Calls Tryz.prog 55 #[.pointer (some ⟨gp, 0, none⟩), .int .i64 x, .int .i64 y] w fun e w' => e = .returned (.tuple #[]) ∧
   ∃ g' c', BoxR gp (rs ++ [w.heap.size]) w' B g' (n + 1) c' (l ++ [(x, y)]) ∧ But g gp w w' ∧ (g' = g ∨ w.heap.size ≤ g') := by
 obtain ⟨i0, hi, hz0, hz1, hz2⟩ := info_parts infoR
 have HI := Lib.hid (And.intro hi (And.intro hz0 (And.intro hz1 hz2)))
 clear hi hz0 hz1 hz2
 have hgp : gp < w.heap.size := (Array.getElem?_eq_some_iff.1 h.box).1
 have hg0 : g < w.heap.size := h.rows.hi
 have c0 := (block_cell h.box 0).trans rfl
 have hroom := h.rows.room
 have hBs : B ≤ w.heap.size := by have := h.rows.lo; omega
 obtain ⟨hb, hX, hY, hsz⟩ := twice w #[.int .i64 x, .int .i64 y] #[.slice (some ⟨w.heap.size, 0, none⟩) 2 2] 3 36
 have hnew : Items rowEnc 1 ((w.alloc (.cells #[.int .i64 x, .int .i64 y] 3)).alloc (.cells #[.slice (some ⟨w.heap.size, 0, none⟩) 2 2] 36)) (some ⟨w.heap.size + 1, 0, none⟩) 1 [w.heap.size] := by
  have := items_new rowEnc_len (w.alloc (.cells #[.int .i64 x, .int .i64 y] 3)) w.heap.size 36
  rw [World.size_alloc] at this
  exact this
 have H := Lib.hid h
 have HB := Lib.hid hb
 have HX := Lib.hid hX
 have HN := Lib.hid hnew
 have hsz2 : w.heap.size + 2 ≤ ((w.alloc (.cells #[.int .i64 x, .int .i64 y] 3)).alloc (.cells #[.slice (some ⟨w.heap.size, 0, none⟩) 2 2] 36)).heap.size := by omega
 have HSZ := Lib.hid hsz
 clear h hb hX hY hsz hnew
 have HR := Lib.hid (H.out.rows.own.same HB.out)
 go_enter Tryz.func55, Tryz.ntmps55
 go_wp2_with (at_builtin; refine wpl_app_rows rfl (.tmp 9) (.tmp 13) 77 rfl 36 i0 (.slice none 0 0) 24 Tryz.underlying77 HI.out.1 HI.out.2.1 HI.out.2.2.1 HI.out.2.2.2 rfl rfl HR.out rfl HN.out (by omega) ?c1 ?c2 ?_)
 case c1 => omega
 case c2 => omega
 intro g' c' w3 ho hg hg'
 have hb3 : w3.heap[gp]? = some (.cells #[.slice (some ⟨g, 0, none⟩) n c] 77 (0, 0)) := by
  have hne := H.out.ne
  rw [hg.block gp (by omega) (fun e => hne (Option.some.inj e)), HB.out.block gp hgp]
  exact H.out.box
 have d0 := (block_cell hb3 0).trans rfl
 have f0 := block_frozen hb3 0
 have HO := Lib.hid ho
 have HG := Lib.hid hg
 have HG' := Lib.hid hg'
 have HB3 := Lib.hid hb3
 clear ho hg hg' hb3 c0
 go_wp2_with fail
 go_returns
 have hwh : g' = g ∨ g' = ((w.alloc (.cells #[.int .i64 x, .int .i64 y] 3)).alloc (.cells #[.slice (some ⟨w.heap.size, 0, none⟩) 2 2] 36)).heap.size := by
  rw [HSZ.out]
  exact HG'.out
 have hszW := HSZ.out
 generalize (w.alloc (.cells #[.int .i64 x, .int .i64 y] 3)).alloc (.cells #[.slice (some ⟨w.heap.size, 0, none⟩) 2 2] 36) = W2 at *
 have hpush := ((H.out.rows.same HB.out).push (p := (x, y)) HX.out (by omega) (by omega) (fun q hq => (H.out.rows.out q hq).2.1) HO.out HG.out hwh)
 have hne := H.out.ne
 have hgg : gp ≠ g' := by
  rcases hwh with e | e <;> omega
 have hgs := HG.out.size
 have hset : w3.grownBy (w3.setCell ⟨gp, 0, none⟩ (.slice (some ⟨g', 0, none⟩) (n + 1 : Nat) c')) (some gp) := put_grown w3 gp 0 _
 have hnin : gp ∉ rs ++ [w.heap.size] := by
  intro hm
  rcases List.mem_append.1 hm with h1 | h1
  ·exact H.out.nin h1
  ·have : gp = w.heap.size := by simpa using h1
   omega
 refine ⟨rfl, g', c', ⟨heap_setCell_same w3 gp 0 _ _ _ HB3.out, ?_, hgg, hnin, H.out.lo⟩, ⟨?_, ?_, ?_, ?_, fun k hk h1 h2 => ?_⟩, ?_⟩
 ·have := hpush.other hset hgg hnin
  rw [World.size_setCell]
  exact this
 ·exact hset.os.trans (HG.out.os.trans HB.out.os)
 ·exact hset.tape.trans (HG.out.tape.trans HB.out.tape)
 ·exact hset.output.trans (HG.out.output.trans HB.out.output)
 ·rw [World.size_setCell]; omega
 ·rw [hset.block k (by omega) (fun e => h2 (Option.some.inj e)), HG.out.block k (by omega) (fun e => h1 (Option.some.inj e)), HB.out.block k hk]
 ·rcases hwh with e | e
  ·exact Or.inl e
  ·exact Or.inr (by omega)
set_option maxRecDepth 100000 in
theorem addTurned_any {gp : Nat} {rs : List Nat} {w : World} {B g n c : Nat} {l : List (Int × Int)} (y x : Int) (h : BoxR gp rs w B g n c l) (hn : n ≤ 1000000000) :
  Calls Tryz.prog 78 #[.pointer (some ⟨gp, 0, none⟩), .int .i64 y, .int .i64 x] w fun e w' => e = .returned (.tuple #[]) ∧
   ∃ g' c', BoxR gp (rs ++ [w.heap.size]) w' B g' (n + 1) c' (l ++ [(x, y)]) ∧ But g gp w w' ∧ (g' = g ∨ w.heap.size ≤ g') := by
 have HA := Lib.hid (add_any x y h hn)
 clear h
 go_enter Tryz.func78, Tryz.ntmps78
 go_wp2_with fail
 refine HA.out.mono ?_
 rintro e w' ⟨rfl, hh⟩
 have HH := Lib.hid hh
 clear hh
 go_wp2_with fail
 go_returns
 exact ⟨rfl, HH.out⟩
end Go.Proofs.YtckmgbobkffabaaGreat
namespace Go.Proofs.YtckmgbobkffabaaGreat
open Go.ChangeShapes Go.WideShapes Go.ChangeAt Go.RowKit
set_option linter.unusedVariables false

/-- What is found once the first i pairs were looked at. -/
def foundG (nx : Int → Int → List (Int × Int)) : Nat → List (Int × Int)
 | 0 => [(0, 0)]
 | i + 1 => match (foundG nx i)[i]? with
  | some p => growP (foundG nx i) (nx p.1 p.2)
  | none => foundG nx i
/-- A pair that is reached. -/
inductive ReachG (nx : Int → Int → List (Int × Int)) : Int × Int → Prop
 | start : ReachG nx (0, 0)
 | step {p q : Int × Int} : ReachG nx p → q ∈ nx p.1 p.2 → ReachG nx q
/-- No more than six states on either side. -/
def SmallG (nx : Int → Int → List (Int × Int)) : Prop := ∀ p, ReachG nx p → (0 ≤ p.1 ∧ p.1 < 6) ∧ 0 ≤ p.2 ∧ p.2 < 6
theorem found_eq (a b : Mac) : ∀ i, found a b i = foundG (nextP a b) i
 | 0 => rfl
 | i + 1 => by
  show (match (found a b i)[i]? with
   | some p => growP (found a b i) (nextP a b p.1 p.2)
   | none => found a b i) = (match (foundG (nextP a b) i)[i]? with
   | some p => growP (foundG (nextP a b) i) (nextP a b p.1 p.2)
   | none => foundG (nextP a b) i)
  rw [found_eq a b i]
theorem foundG_none {nx : Int → Int → List (Int × Int)} {i : Nat} (h : (foundG nx i)[i]? = none) : foundG nx (i + 1) = foundG nx i := by
 show (match (foundG nx i)[i]? with
  | some p => growP (foundG nx i) (nx p.1 p.2)
  | none => foundG nx i) = _
 rw [h]
theorem foundG_step {nx : Int → Int → List (Int × Int)} {i : Nat} {p : Int × Int} (h : (foundG nx i)[i]? = some p) : foundG nx (i + 1) = growP (foundG nx i) (nx p.1 p.2) := by
 show (match (foundG nx i)[i]? with
  | some p => growP (foundG nx i) (nx p.1 p.2)
  | none => foundG nx i) = _
 rw [h]
theorem foundG_nodup (nx : Int → Int → List (Int × Int)) : ∀ i, (foundG nx i).Nodup
 | 0 => by simp [foundG]
 | i + 1 => by
  cases e : (foundG nx i)[i]? with
  | none => rw [foundG_none e]; exact foundG_nodup nx i
  | some p => rw [foundG_step e]; exact growP_nodup (foundG_nodup nx i)
theorem foundG_reach (nx : Int → Int → List (Int × Int)) : ∀ i, ∀ p ∈ foundG nx i, ReachG nx p
 | 0, p, hp => by
  have : p = (0, 0) := by simpa [foundG] using hp
  subst this
  exact ReachG.start
 | i + 1, p, hp => by
  cases e : (foundG nx i)[i]? with
  | none =>
   rw [foundG_none e] at hp
   exact foundG_reach nx i p hp
  | some r =>
   rw [foundG_step e] at hp
   rcases growP_mem.1 hp with h | h
   ·exact foundG_reach nx i p h
   ·exact ReachG.step (foundG_reach nx i r (List.mem_of_getElem? e)) h
theorem foundG_len {nx : Int → Int → List (Int × Int)} (hs : SmallG nx) (i : Nat) : (foundG nx i).length ≤ 36 := by
 have h := nodup_le (m := allP) (foundG_nodup nx i) fun p hp => by
  have h1 := hs p (foundG_reach nx i p hp)
  exact mem_allP h1.1 h1.2
 simpa [allP] using h
theorem foundG_stay {nx : Int → Int → List (Int × Int)} {i : Nat} (h : (foundG nx i).length ≤ i) : ∀ k, foundG nx (i + k) = foundG nx i
 | 0 => rfl
 | k + 1 => by
  have ih := foundG_stay h k
  have e := foundG_none (nx := nx) (i := i + k) (by rw [ih]; exact List.getElem?_eq_none (by omega))
  rw [show i + (k + 1) = i + k + 1 by omega, e, ih]
theorem foundG_end {nx : Int → Int → List (Int × Int)} {i : Nat} (hi : i ≤ 36) (h : (foundG nx i).length ≤ i) : foundG nx i = foundG nx 36 := by
 rw [show (36 : Nat) = i + (36 - i) by omega, foundG_stay h]
theorem foundG_pre1 (nx : Int → Int → List (Int × Int)) (i : Nat) : ∃ r, foundG nx (i + 1) = foundG nx i ++ r := by
 cases e : (foundG nx i)[i]? with
 | none => exact ⟨[], by rw [foundG_none e, List.append_nil]⟩
 | some r => rw [foundG_step e]; exact growP_pre
theorem foundG_pre (nx : Int → Int → List (Int × Int)) (i : Nat) : ∀ k, ∃ r, foundG nx (i + k) = foundG nx i ++ r
 | 0 => ⟨[], by simp⟩
 | k + 1 => by
  obtain ⟨r, e⟩ := foundG_pre nx i k
  obtain ⟨s, e2⟩ := foundG_pre1 nx (i + k)
  exact ⟨r ++ s, by rw [show i + (k + 1) = i + k + 1 by omega, e2, e, List.append_assoc]⟩
theorem foundG_zero (nx : Int → Int → List (Int × Int)) (i : Nat) : (0, 0) ∈ foundG nx i := by
 obtain ⟨r, e⟩ := foundG_pre nx 0 i
 rw [Nat.zero_add] at e
 rw [e]
 exact List.mem_append_left _ (by simp [foundG])
theorem foundG_head (nx : Int → Int → List (Int × Int)) (i : Nat) : 0 < (foundG nx i).length := List.length_pos_of_mem (foundG_zero nx i)
theorem foundG_closed {nx : Int → Int → List (Int × Int)} (hs : SmallG nx) {p q : Int × Int} (hp : p ∈ foundG nx 36) (hq : q ∈ nx p.1 p.2) : q ∈ foundG nx 36 := by
 obtain ⟨j, hj⟩ := List.mem_iff_getElem?.1 hp
 have hL := foundG_len hs 36
 have hjl := at_lt hj
 have hj36 : j < 36 := by omega
 by_cases hjj : j < (foundG nx j).length
 ·obtain ⟨r, e⟩ := foundG_pre nx j (36 - j)
  rw [show j + (36 - j) = 36 by omega] at e
  have hpj : (foundG nx j)[j]? = some p := by
   rw [e, List.getElem?_append_left hjj] at hj
   exact hj
  have h1 : q ∈ foundG nx (j + 1) := by
   rw [foundG_step hpj]
   exact growP_mem.2 (Or.inr hq)
  obtain ⟨r2, e2⟩ := foundG_pre nx (j + 1) (36 - (j + 1))
  rw [show j + 1 + (36 - (j + 1)) = 36 by omega] at e2
  rw [e2]
  exact List.mem_append_left _ h1
 ·have e := foundG_end (nx := nx) (i := j) (by omega) (by omega)
  rw [← e] at hj
  have := at_lt hj
  omega
theorem reach_foundG {nx : Int → Int → List (Int × Int)} (hs : SmallG nx) {p : Int × Int} (h : ReachG nx p) : p ∈ foundG nx 36 := by
 induction h with
 | start => exact foundG_zero nx 36
 | step _ hq ih => exact foundG_closed hs ih hq
theorem foundG_iff {nx : Int → Int → List (Int × Int)} (hs : SmallG nx) {p : Int × Int} : p ∈ foundG nx 36 ↔ ReachG nx p := ⟨foundG_reach nx 36 p, reach_foundG hs⟩

/-- Where both lead to. -/
def bothG (x : Mac) (s : Int) (b : Bool) (y : Mac) (t : Int) (c : Bool) (k : Int) : Option (Int × Int) :=
 match toOf x.moves s b k, toOf y.moves t c k with
 | some p, some q => some (p, q)
 | _, _ => none
/-- Where the messages lead to that lead somewhere in both. -/
def sharedP (x : Mac) (s : Int) (b : Bool) (y : Mac) (t : Int) (c : Bool) : List (Int × Int) := (movesFrom x s b).filterMap (bothG x s b y t c)
theorem bothG_some {x y : Mac} {s t k : Int} {b c : Bool} {q r : Int} (h1 : toOf x.moves s b k = some q) (h2 : toOf y.moves t c k = some r) : bothG x s b y t c k = some (q, r) := by
 unfold bothG
 rw [h1, h2]
theorem bothG_none {x y : Mac} {s t k : Int} {b c : Bool} (h2 : toOf y.moves t c k = none) : bothG x s b y t c k = none := by
 unfold bothG
 rw [h2]
 cases toOf x.moves s b k <;> rfl
theorem bothG_iff {x y : Mac} {s t k : Int} {b c : Bool} {p : Int × Int} : bothG x s b y t c k = some p ↔ toOf x.moves s b k = some p.1 ∧ toOf y.moves t c k = some p.2 := by
 unfold bothG
 cases toOf x.moves s b k <;> cases toOf y.moves t c k <;> simp [Prod.ext_iff]
theorem sharedP_len (x : Mac) (s : Int) (b : Bool) (y : Mac) (t : Int) (c : Bool) : (sharedP x s b y t c).length ≤ x.moves.length :=
 Nat.le_trans (List.length_filterMap_le _ _) (movesFrom_len _ _ _)
theorem filterMap_same {α β : Type} {f g : α → Option β} : ∀ {l : List α}, (∀ x ∈ l, f x = g x) → l.filterMap f = l.filterMap g
 | [], _ => rfl
 | x :: t, h => by
  rw [List.filterMap_cons, List.filterMap_cons, h x (by simp), filterMap_same (l := t) fun y hy => h y (by simp [hy])]
theorem delivs_shared (x : Mac) (s : Int) (y : Mac) (t : Int) : delivs x s y t = sharedP x s true y t false := by
 unfold delivs sharedP
 refine filterMap_same fun k hk => ?_
 obtain ⟨q, hq⟩ := sent_to hk
 unfold deliv bothG
 rw [hq]
 cases toOf y.moves t false k <;> rfl
theorem toOf_from {x : Mac} {s k t : Int} {b : Bool} (h : toOf x.moves s b k = some t) : k ∈ movesFrom x s b := by
 obtain ⟨m, h1, _, h2⟩ := toOf_mem h
 exact mem_movesFrom.2 ⟨m, h1, h2⟩
theorem movesFrom_asc (x : Mac) (s : Int) (b : Bool) : Asc (movesFrom x s b) := (puts_asc (acc := []) (by simp [Asc])).1
theorem filterMap_filter' {β : Type} {f : Int → Option β} : ∀ l : List Int, l.filterMap f = (l.filter fun k => (f k).isSome).filterMap f
 | [] => rfl
 | x :: t => by
  rw [List.filterMap_cons, List.filter_cons]
  cases e : f x with
  | none => simpa [e] using filterMap_filter' t
  | some y => simpa [e, List.filterMap_cons] using filterMap_filter' t
theorem sharedP_other (x : Mac) (s : Int) (b : Bool) (y : Mac) (t : Int) (c : Bool) : sharedP x s b y t c = (movesFrom y t c).filterMap (bothG x s b y t c) := by
 unfold sharedP
 rw [filterMap_filter' (movesFrom x s b), filterMap_filter' (movesFrom y t c)]
 congr 1
 refine asc_ext ((movesFrom_asc x s b).filter _) ((movesFrom_asc y t c).filter _) fun k => ?_
 rw [List.mem_filter, List.mem_filter]
 have key : (bothG x s b y t c k).isSome = true → k ∈ movesFrom x s b ∧ k ∈ movesFrom y t c := fun h => by
  obtain ⟨p, hp⟩ := Option.isSome_iff_exists.1 h
  obtain ⟨h1, h2⟩ := bothG_iff.1 hp
  exact ⟨toOf_from h1, toOf_from h2⟩
 exact ⟨fun h => ⟨(key h.2).2, h.2⟩, fun h => ⟨(key h.2).1, h.2⟩⟩
theorem sharedP_mem {x y : Mac} {s t : Int} {b c : Bool} {p : Int × Int} : p ∈ sharedP x s b y t c ↔ ∃ k, toOf x.moves s b k = some p.1 ∧ toOf y.moves t c k = some p.2 := by
 unfold sharedP
 rw [List.mem_filterMap]
 constructor
 ·rintro ⟨k, _, h⟩
  exact ⟨k, bothG_iff.1 h⟩
 ·rintro ⟨k, h1, h2⟩
  exact ⟨k, toOf_from h1, bothG_iff.2 ⟨h1, h2⟩⟩
/-- The pairs that follow if both make the same move. -/
def samesP (a b : Mac) (x y : Int) : List (Int × Int) := sharedP a x true b y true ++ sharedP a x false b y false
theorem samesP_len (a b : Mac) (x y : Int) : (samesP a b x y).length ≤ a.moves.length + a.moves.length := by
 have h1 := sharedP_len a x true b y true
 have h2 := sharedP_len a x false b y false
 unfold samesP
 rw [List.length_append]
 omega
theorem samesP_mem {a b : Mac} {x y : Int} {p : Int × Int} : p ∈ samesP a b x y ↔ ∃ (c : Bool) (k : Int), toOf a.moves x c k = some p.1 ∧ toOf b.moves y c k = some p.2 := by
 unfold samesP
 rw [List.mem_append, sharedP_mem, sharedP_mem]
 constructor
 ·rintro (⟨k, h⟩ | ⟨k, h⟩)
  ·exact ⟨true, k, h⟩
  ·exact ⟨false, k, h⟩
 ·rintro ⟨c, k, h⟩
  cases c
  ·exact Or.inr ⟨k, h⟩
  ·exact Or.inl ⟨k, h⟩
theorem small_of {a b : Mac} (ha : isMac a = true) (hb : isMac b = true) {nx : Int → Int → List (Int × Int)} (h : ∀ x y q, q ∈ nx x y → (∃ m ∈ a.moves, m.to = q.1) ∧ ∃ m ∈ b.moves, m.to = q.2) {p : Int × Int} (hp : ReachG nx p) : (0 ≤ p.1 ∧ p.1 < a.st) ∧ 0 ≤ p.2 ∧ p.2 < b.st := by
 have h1 := (isMac_to ha).1
 have h2 := (isMac_to hb).1
 cases hp with
 | start => exact ⟨⟨by simp, by simp; omega⟩, by simp, by simp; omega⟩
 | step _ hq =>
  obtain ⟨⟨m, m1, m2⟩, m', m1', m2'⟩ := h _ _ _ hq
  have e1 := (isMac_to ha).2 m m1
  have e2 := (isMac_to hb).2 m' m1'
  omega
theorem samesP_to {a b : Mac} {x y : Int} {q : Int × Int} (h : q ∈ samesP a b x y) : (∃ m ∈ a.moves, m.to = q.1) ∧ ∃ m ∈ b.moves, m.to = q.2 := by
 obtain ⟨c, k, h1, h2⟩ := samesP_mem.1 h
 obtain ⟨m, m1, m2, _⟩ := toOf_mem h1
 obtain ⟨m', m1', m2', _⟩ := toOf_mem h2
 exact ⟨⟨m, m1, m2⟩, m', m1', m2'⟩
theorem sames_in {a b : Mac} (ha : isMac a = true) (hb : isMac b = true) {p : Int × Int} (hp : ReachG (samesP a b) p) : (0 ≤ p.1 ∧ p.1 < a.st) ∧ 0 ≤ p.2 ∧ p.2 < b.st := small_of ha hb (fun _ _ _ => samesP_to) hp
theorem nexts_in {a b : Mac} (ha : isMac a = true) (hb : isMac b = true) {p : Int × Int} (hp : ReachG (nextP a b) p) : (0 ≤ p.1 ∧ p.1 < a.st) ∧ 0 ≤ p.2 ∧ p.2 < b.st := small_of ha hb (fun _ _ _ => nextP_mem) hp
theorem sames_small {a b : Mac} (ha : isMac a = true) (hb : isMac b = true) : SmallG (samesP a b) := fun p hp => by
 have h1 := (isMac_to ha).1
 have h2 := (isMac_to hb).1
 have := sames_in ha hb hp
 omega
theorem nexts_small {a b : Mac} (ha : isMac a = true) (hb : isMac b = true) : SmallG (nextP a b) := fun p hp => by
 have h1 := (isMac_to ha).1
 have h2 := (isMac_to hb).1
 have := nexts_in ha hb hp
 omega
/-- All pairs that two machines reach by the same moves. -/
def followP (a b : Mac) : List (Int × Int) := if (isMac a && isMac b) = true then foundG (samesP a b) 36 else []
theorem followP_len (a b : Mac) : (followP a b).length ≤ 36 := by
 unfold followP
 split
 ·rename_i h
  rw [Bool.and_eq_true] at h
  exact foundG_len (sames_small h.1 h.2) 36
 ·simp
theorem followP_yes {a b : Mac} (ha : isMac a = true) (hb : isMac b = true) : followP a b = foundG (samesP a b) 36 := by
 unfold followP
 rw [if_pos (by rw [ha, hb]; rfl)]
theorem followP_no {a b : Mac} (h : (isMac a && isMac b) = false) : followP a b = [] := by
 unfold followP
 rw [h]
 rfl
/-- The numbers of the one list are among the other's, and none only where there are none. -/
def someOf (l all : List Int) : Bool := l.all (fun k => decide (k ∈ all)) && (l.isEmpty == all.isEmpty)
def endP (a : Mac) (x : Int) : Bool := decide (x < a.st) && stopP a x
def followsAtP (a b : Mac) (x y : Int) : Bool := someOf (movesFrom a x true) (movesFrom b y true) && (someOf (movesFrom b y false) (movesFrom a x false) && (endP a x || !endP b y))
def followsP (a b : Mac) : Bool := isMac a && (isMac b && (followP a b).all fun p => followsAtP a b p.1 p.2)
def chainFrom (x : Mac) : List Mac → Bool
 | [] => true
 | y :: t => followsP y x && chainFrom y t
def chainP : List Mac → Bool
 | [] => false
 | x :: t => isMac x && chainFrom x t
theorem followsP_iff {a b : Mac} : followsP a b = true ↔ isMac a = true ∧ isMac b = true ∧ ∀ p, ReachG (samesP a b) p → followsAtP a b p.1 p.2 = true := by
 unfold followsP
 rw [Bool.and_eq_true, Bool.and_eq_true, List.all_eq_true]
 constructor
 ·rintro ⟨h1, h2, h3⟩
  refine ⟨h1, h2, fun p hp => h3 p ?_⟩
  rw [followP_yes h1 h2]
  exact reach_foundG (sames_small h1 h2) hp
 ·rintro ⟨h1, h2, h3⟩
  refine ⟨h1, h2, fun p hp => h3 p ?_⟩
  rw [followP_yes h1 h2] at hp
  exact foundG_reach _ 36 p hp
theorem isMac_ends {a : Mac} (h : isMac a = true) : (a.ends.length : Int) = a.st := by
 unfold isMac at h
 simp only [Bool.and_eq_true, inB, decide_eq_true_eq, List.all_eq_true] at h
 exact h.2.1
theorem endP_stop {a : Mac} (h : isMac a = true) (x : Int) : endP a x = stopP a x := by
 unfold endP stopP
 rw [isMac_ends h]
 by_cases hx : x < a.st
 ·simp [hx]
 ·have : inB x 0 (a.st - 1) = false := by simp [inB]; omega
  rw [this]
  simp
end Go.Proofs.YtckmgbobkffabaaGreat
