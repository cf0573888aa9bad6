/- Lists of pairs of integers, each pair a slice in a block of its own. No function of the program is spoken of. A list of pairs behind a pointer: a pair is put behind the others. -/
import Derived.Test.YtckmgbobkffabaaG12
import Derived.Test.YtckmgbobkffabaaG2
import Derived.Test.YtckmgbobkffabaaG11
import Derived.Deep.RegionHeld3
import Derived.Deep.QuietTactic
import Derived.BigQuiet
import Derived.RegionTactic
import Derived.Handy
import Derived.Test.YtckmgbobkffabaaG1
namespace Go.Proofs.Ytckmgbobkffabaa
open Go.ChangeShapes Go.WideShapes Go.ChangeAt Go.RowKit
set_option linter.unusedVariables false

/-- A row as it lies: the block of its two integers. -/
def rowEnc (r : Nat) : List Value := [.slice (some ⟨r, 0, none⟩) 2 2]
theorem rowEnc_len (r : Nat) : (rowEnc r).length = 1 := rfl
theorem rowEnc_one (r : Nat) : ∀ u ∈ rowEnc r, u.oneCell' = true := by
 intro u hu
 have : u = .slice (some ⟨r, 0, none⟩) 2 2 := by simpa [rowEnc] using hu
 subst this
 rfl
/-- The two cells of a pair. -/
def two (p : Int × Int) : Obj := .cells #[.int .i64 p.1, .int .i64 p.2] 3 (0, 0)
/-- The list of pairs is the call's own, in blocks from B on and below S; its rows lie at rs. -/
structure OwnRs (rs : List Nat) (S : Nat) (w : World) (B g n c : Nat) (l : List (Int × Int)) : Prop where
 own : OwnI rowEnc 1 31 w B (some ⟨g, 0, none⟩) n c rs
 len : rs.length = l.length
 row : ∀ (j r : Nat) (p : Int × Int), rs[j]? = some r → l[j]? = some p → w.heap[r]? = some (two p)
 out : ∀ r ∈ rs, B ≤ r ∧ r < S ∧ r ≠ g
 inc : rs.Pairwise (· < ·)
 lo : B ≤ g
 hi : g < S
 top : S ≤ w.heap.size
def OwnR (S : Nat) (w : World) (B g n c : Nat) (l : List (Int × Int)) : Prop := ∃ rs, OwnRs rs S w B g n c l
section
variable {rs : List Nat} {S : Nat} {w w' : World} {B g n c : Nat} {l : List (Int × Int)}
theorem OwnRs.count (h : OwnRs rs S w B g n c l) : l.length = n := by rw [← h.len]; exact h.own.len
theorem OwnRs.room (h : OwnRs rs S w B g n c l) : n ≤ c ∧ (c : Int) ≤ 9223372036854775807 := h.own.room
theorem OwnRs.same (h : OwnRs rs S w B g n c l) (hb : Below w.heap.size w w') : OwnRs rs S w' B g n c l :=
 ⟨h.own.same hb, h.len, fun j r p h1 h2 => by
  have := (h.out r (List.mem_of_getElem? h1)).2.1
  have ht := h.top
  rw [hb.block _ (by omega)]
  exact h.row j r p h1 h2, h.out, h.inc, h.lo, h.hi, Nat.le_trans h.top hb.size⟩
theorem OwnRs.aside {lo hi : Nat} (h : OwnRs rs S w B g n c l) (hg : Inside lo hi w w') (hd : hi ≤ B ∨ S ≤ lo) : OwnRs rs S w' B g n c l := by
 have hlo := h.lo
 have hhi := h.hi
 have ht := h.top
 refine ⟨h.own.aside hg (lo' := B) (hi' := S) (fun ad e => by cases e; exact ⟨hlo, hhi⟩) (by omega), h.len, fun j r p h1 h2 => ?_, h.out, h.inc, hlo, hhi, Nat.le_trans ht hg.size⟩
 obtain ⟨o1, o2, o3⟩ := h.out r (List.mem_of_getElem? h1)
 rw [hg.block _ (by omega) (by omega)]
 exact h.row j r p h1 h2
theorem OwnRs.lower {B' : Nat} (h : OwnRs rs S w B g n c l) (hB : B' ≤ B) : OwnRs rs S w B' g n c l :=
 ⟨h.own.lower hB, h.len, h.row, fun r hr => ⟨Nat.le_trans hB (h.out r hr).1, (h.out r hr).2⟩, h.inc, Nat.le_trans hB h.lo, h.hi, h.top⟩
theorem OwnRs.upper {S' : Nat} (h : OwnRs rs S w B g n c l) (h1 : S ≤ S') (h2 : S' ≤ w.heap.size) : OwnRs rs S' w B g n c l :=
 ⟨h.own, h.len, h.row, fun r hr => ⟨(h.out r hr).1, Nat.lt_of_lt_of_le (h.out r hr).2.1 h1, (h.out r hr).2.2⟩, h.inc, h.lo, Nat.lt_of_lt_of_le h.hi h1, h2⟩
theorem OwnRs.at_ (h : OwnRs rs S w B g n c l) {j : Nat} (hj : j < n) : ∃ r p, rs[j]? = some r ∧ l[j]? = some p ∧ w.cell? ⟨g, j, none⟩ = some (.slice (some ⟨r, 0, none⟩) 2 2) ∧ w.heap[r]? = some (two p) ∧ B ≤ r ∧ r < S ∧ r ≠ g := by
 have hl := h.count
 have hk : j < rs.length := by rw [h.len]; omega
 obtain ⟨b, o, r, e, hr, hc⟩ := (h.own.items rowEnc_len).at_ (j := j) hj
 cases e
 have hp : l[j]? = some (l[j]'(by omega)) := List.getElem?_eq_getElem (by omega)
 refine ⟨r, _, hr, hp, by simpa using hc 0 _ rfl, h.row j r _ hr hp, h.out r (List.mem_of_getElem? hr)⟩
theorem two_own {r : Nat} {p : Int × Int} (h : w.heap[r]? = some (two p)) (hB : B ≤ r) : Own .i64 3 w B (some ⟨r, 0, none⟩) 2 2 [p.1, p.2] :=
 ⟨rfl, rfl, .inr ⟨r, 2, _, rfl, hB, h, Nat.le_refl _, by unfold maxLen; omega, rfl, rfl⟩⟩
theorem own_two {r : Nat} {x y : Int} (h : Own .i64 3 w B (some ⟨r, 0, none⟩) 2 2 [x, y]) : w.heap[r]? = some (two (x, y)) := by
 rcases h.2.2 with ⟨e, _⟩ | ⟨g, cap, cur, e, _, hg, _, _, hs, ht⟩
 ·cases e
 ·injection e with e1 e2 e3
  injection e1 with e1
  injection e1 with e1
  subst e1
  subst e3
  have h2 : cur.toList.take (2 * 1) = cur.toList := List.take_of_length_le (by simp; omega)
  rw [h2] at ht
  have : cur = #[.int .i64 x, .int .i64 y] := by
   apply Array.ext'
   rw [ht]
   rfl
  rw [hg, this]
  rfl
theorem two_cells {r : Nat} {p : Int × Int} (h : w.heap[r]? = some (two p)) : w.cell? ⟨r, 0, none⟩ = some (.int .i64 p.1) ∧ w.cell? ⟨r, 1, none⟩ = some (.int .i64 p.2) :=
 ⟨(block_cell h 0).trans rfl, (block_cell h 1).trans rfl⟩
/-- What is written to one row. -/
theorem OwnRs.put (h : OwnRs rs S w B g n c l) {j r : Nat} (hr : rs[j]? = some r) {p : Int × Int} (hg : w.grownBy w' (some r)) (hp : w'.heap[r]? = some (two p)) : OwnRs rs S w' B g n c (l.set j p) := by
 obtain ⟨o1, o2, o3⟩ := h.out r (List.mem_of_getElem? hr)
 have ht := h.top
 refine ⟨?_, by rw [List.length_set]; exact h.len, fun i q v h1 h2 => ?_, h.out, h.inc, h.lo, h.hi, Nat.le_trans ht hg.size⟩
 ·refine ⟨h.own.1, h.own.2.kept hg (Or.inr ?_)⟩
  simp only [Value.ownBlock, ne_eq, Option.some.injEq]
  omega
 ·by_cases e : i = j
  ·subst e
   rw [hr] at h1
   cases h1
   rw [List.getElem?_set_self (by rw [← h.len]; exact at_lt hr)] at h2
   cases h2
   exact hp
  ·rw [List.getElem?_set_ne (by omega)] at h2
   have hne : q ≠ r := by
    have hi := at_lt h1
    have hj := at_lt hr
    rw [List.getElem?_eq_getElem hi] at h1
    rw [List.getElem?_eq_getElem hj] at hr
    cases h1
    cases hr
    rcases Nat.lt_or_gt_of_ne e with q1 | q1
    ·have := List.pairwise_iff_getElem.1 h.inc _ _ hi hj q1
     omega
    ·have := List.pairwise_iff_getElem.1 h.inc _ _ hj hi q1
     omega
   obtain ⟨p1, p2, p3⟩ := h.out q (List.mem_of_getElem? h1)
   rw [hg.block q (by omega) (fun e2 => hne (Option.some.inj e2))]
   exact h.row i q v h1 h2
/-- A row that is newer than all others was appended. -/
theorem OwnRs.push (h : OwnRs rs S w B g n c l) {r g' c' : Nat} {p : Int × Int} (hp : w.heap[r]? = some (two p)) (hS : B ≤ r) (hne : r ≠ g) (hlt : ∀ q ∈ rs, q < r)
  (ho : OwnI rowEnc 1 31 w' B (some ⟨g', 0, none⟩) (n + 1) c' (rs ++ [r])) (hg : w.grownBy w' (some g)) (hg' : g' = g ∨ g' = w.heap.size) : OwnRs (rs ++ [r]) w'.heap.size w' B g' (n + 1) c' (l ++ [p]) := by
 have hrs : r < w.heap.size := (Array.getElem?_eq_some_iff.1 hp).1
 have ht := h.top
 have hlo := h.lo
 have hhi := h.hi
 have hsz := hg.size
 obtain ⟨_, _, hg9⟩ := ho.head (by omega)
 have hB' : B ≤ g' := by
  obtain ⟨q, e, h1, _⟩ := ho.head (by omega)
  cases e
  exact h1
 have hg1 : g' < w'.heap.size := (ho.span _ rfl).2
 refine ⟨ho, by simp [h.len], fun j q v h1 h2 => ?_, fun q hq => ?_, ?_, hB', hg1, Nat.le_refl _⟩
 ·rcases Nat.lt_or_ge j rs.length with hj | hj
  ·rw [List.getElem?_append_left hj] at h1
   rw [List.getElem?_append_left (by rw [← h.len]; exact hj)] at h2
   obtain ⟨p1, p2, p3⟩ := h.out q (List.mem_of_getElem? h1)
   rw [hg.block q (by omega) (fun e2 => p3 (Option.some.inj e2))]
   exact h.row j q v h1 h2
  ·rw [List.getElem?_append_right hj] at h1
   rw [List.getElem?_append_right (by rw [← h.len]; exact hj), ← h.len] at h2
   have hj0 : j - rs.length = 0 := by
    have := at_lt h1
    simp at this
    omega
   rw [hj0] at h1 h2
   simp at h1 h2
   subst h1
   subst h2
   rw [hg.block r hrs (fun e2 => hne (Option.some.inj e2))]
   exact hp
 ·rcases List.mem_append.1 hq with h1 | h1
  ·obtain ⟨p1, p2, p3⟩ := h.out q h1
   exact ⟨p1, by omega, by omega⟩
  ·have : q = r := by simpa using h1
   subst this
   exact ⟨hS, by omega, by omega⟩
 ·rw [List.pairwise_append]
  exact ⟨h.inc, by simp, fun a ha b hb => by
   have : b = r := by simpa using hb
   subst this
   exact hlt a ha⟩
theorem OwnRs.nil (hB : B ≤ w.heap.size) : OwnRs [] (w.heap.size + 1) (w.alloc (.cells #[] 31)) B w.heap.size 0 0 [] :=
 ⟨own_emptyI _ hB, rfl, fun j r p h => by simp at h, fun r hr => by simp at hr, by simp, hB, by omega, by simp⟩
theorem OwnR.same (h : OwnR S w B g n c l) (hb : Below w.heap.size w w') : OwnR S w' B g n c l := by
 obtain ⟨rs, h⟩ := h
 exact ⟨rs, h.same hb⟩
theorem OwnR.aside {lo hi : Nat} (h : OwnR S w B g n c l) (hg : Inside lo hi w w') (hd : hi ≤ B ∨ S ≤ lo) : OwnR S w' B g n c l := by
 obtain ⟨rs, h⟩ := h
 exact ⟨rs, h.aside hg hd⟩
theorem OwnR.lower {B' : Nat} (h : OwnR S w B g n c l) (hB : B' ≤ B) : OwnR S w B' g n c l := by
 obtain ⟨rs, h⟩ := h
 exact ⟨rs, h.lower hB⟩
theorem OwnR.count (h : OwnR S w B g n c l) : l.length = n := by
 obtain ⟨rs, h⟩ := h
 exact h.count
theorem OwnR.room (h : OwnR S w B g n c l) : n ≤ c ∧ (c : Int) ≤ 9223372036854775807 := by
 obtain ⟨rs, h⟩ := h
 exact h.room
theorem OwnR.at_ (h : OwnR S w B g n c l) {j : Nat} (hj : j < n) : ∃ r p, l[j]? = some p ∧ w.cell? ⟨g, j, none⟩ = some (.slice (some ⟨r, 0, none⟩) 2 2) ∧ w.heap[r]? = some (two p) ∧ B ≤ r ∧ r < S ∧ r ≠ g := by
 obtain ⟨rs, h⟩ := h
 obtain ⟨r, p, _, h2⟩ := h.at_ hj
 exact ⟨r, p, h2⟩
end
/-- What a function leaves that makes a list of pairs. -/
def MadeR (B : Nat) (l : List (Int × Int)) (w : World) (e : Ending) (w' : World) : Prop :=
 ∃ g n c, e = .returned (.slice (some ⟨g, 0, none⟩) n c) ∧ OwnR w'.heap.size w' B g n c l ∧ Below B w w'
/-- The marks of n pairs, from k on. -/
def marksR (k n : Nat) : List (Int × Int) := (List.range n).map fun j => (((k + j * 2 : Nat) : Int), ((k + j * 2 + 1 : Nat) : Int))
theorem marksR_len (k n : Nat) : (marksR k n).length = n := by simp [marksR]
theorem marksR_get {k n i : Nat} (h : i < n) : (marksR k n)[i]? = some (((k + i * 2 : Nat) : Int), ((k + i * 2 + 1 : Nat) : Int)) := by unfold marksR; simp [h]
theorem marksR_step {l : List (Int × Int)} {i n k : Nat} (hi : i < n) (hn : l.length = n) : (marksR k i ++ l.drop i).set i (((k + i * 2 : Nat) : Int), ((k + i * 2 + 1 : Nat) : Int)) = marksR k (i + 1) ++ l.drop (i + 1) := by
 rw [List.set_append_right _ _ (by rw [marksR_len]; exact Nat.le_refl _), marksR_len, Nat.sub_self, List.drop_eq_getElem_cons (by omega), List.set_cons_zero]
 have : marksR k (i + 1) = marksR k i ++ [(((k + i * 2 : Nat) : Int), ((k + i * 2 + 1 : Nat) : Int))] := by simp [marksR, List.range_succ]
 rw [this, List.append_assoc]
 rfl
end Go.Proofs.Ytckmgbobkffabaa
namespace Go.Proofs.Ytckmgbobkffabaa
open Go.ChangeShapes Go.WideShapes Go.ChangeAt Go.RowKit
set_option linter.unusedVariables false
set_option linter.unusedSimpArgs false

theorem infoR : (Try.prog.info? 31).map (fun i => (i.zero, i.size, i.bytes)) = some (some (.slice none 0 0), 1, 24) := by kernel_rfl
section
variable {rs : List Nat} {S : Nat} {w w' : World} {B g n c : Nat} {l : List (Int × Int)}
/-- Another block was written to. -/
theorem OwnRs.other {q : Nat} (h : OwnRs rs S w B g n c l) (hg : w.grownBy w' (some q)) (h1 : q ≠ g) (h2 : q ∉ rs) : OwnRs rs S w' B g n c l := by
 have ht := h.top
 refine ⟨⟨h.own.1, h.own.2.kept hg (Or.inr ?_)⟩, h.len, fun j r p a1 a2 => ?_, h.out, h.inc, h.lo, h.hi, Nat.le_trans ht hg.size⟩
 ·simp only [Value.ownBlock, ne_eq, Option.some.injEq]
  omega
 ·have hm := List.mem_of_getElem? a1
  have := (h.out r hm).2.1
  rw [hg.block r (by omega) (fun e => h2 (by cases e; exact hm))]
  exact h.row j r p a1 a2
/-- Rows are appended to a list of rows that is not nil; where it lies then. -/
theorem wpl_app_rows {P : Program} {ops : Array Oper} {rest : List Oper} {o : Oper} {act : Act} {Q : Exit → Act → World → Prop} (hgd : o.guard = none) (q x : Operand) (t : TypeId)
  (ho : o.op = .call { callee := .builtin .append, args := #[q, x], argTypes := #[t, t] })
  (e : TypeId) (i : TypeInfo) (z : Value) (bytes : Nat) (ht : P.underlying t = some (.slice e)) (hi : P.info? e = some i) (hz : i.zero = some z) (hsize : i.size = 1) (hby : i.bytes = bytes) (hzs : z.cells.size = 1)
  {B n c m d g : Nat} {b : Option Addr} {l l' : List Nat} (hq : act.eval q = .slice (some ⟨g, 0, none⟩) n c) (hown : OwnI rowEnc 1 e w B (some ⟨g, 0, none⟩) n c l) (hx : act.eval x = .slice b m d) (hnew : Items rowEnc 1 w b m l')
  (hb1 : 0 < bytes) (hbytes : (n + m) * bytes ≤ 140737488355328) (hB : B ≤ w.heap.size)
  (h : ∀ g' c' w', OwnI rowEnc 1 e w' B (some ⟨g', 0, none⟩) (n + m) c' (l ++ l') → w.grownBy w' (some g) → (g' = g ∨ g' = w.heap.size) → wpList P ops Q rest (act.put o.dst (.slice (some ⟨g', 0, none⟩) (n + m) c')) w') : wpList P ops Q (o :: rest) act w := by
 refine wpList_plain hgd fun K hK => ?_
 have h63 : n + m ≤ maxLen := by
  have := Nat.mul_le_mul_left (n + m) hb1
  unfold maxLen
  omega
 obtain ⟨g', c', w', hr, h2, h3, h4⟩ := run_app_someI (P := P) (d := d) w rowEnc_len (by omega) rowEnc_one t o.type e i z bytes ht hi hz hsize hby hzs hown hnew hbytes h63 hB
 unfold Oper.wp execOp
 simp only [ho, resolve, invoke, builtin, Sem.run_bind, Sem.run_pure, Result.andThen_ok, List.map_toArray, List.map_cons, List.map_nil, hq, hx, hr]
 exact hK _ _ (h g' c' w' h2 h3 h4)
end
/-- The variable gp holds a list of pairs of the call's own. -/
structure BoxR (gp : Nat) (rs : List Nat) (w : World) (B g n c : Nat) (l : List (Int × Int)) : Prop where
 box : w.heap[gp]? = some (.cells #[.slice (some ⟨g, 0, none⟩) n c] 76 (0, 0))
 rows : OwnRs rs w.heap.size w B g n c l
 ne : gp ≠ g
 nin : gp ∉ rs
 lo : B ≤ gp
/-- Only the blocks g and q have changed, or new ones. -/
structure But (g q : Nat) (w w' : World) : Prop where
 os : w'.os = w.os
 tape : w'.tape = w.tape
 output : w'.output = w.output
 size : w.heap.size ≤ w'.heap.size
 block : ∀ k, k < w.heap.size → k ≠ g → k ≠ q → w'.heap[k]? = w.heap[k]?
theorem But.below {g q B0 : Nat} {w0 w w' : World} (h : But g q w w') (hb : Below B0 w0 w) (h1 : B0 ≤ g) (h2 : B0 ≤ q) (h3 : B0 ≤ w.heap.size) : Below B0 w0 w' :=
 hb.trans ⟨h.os, h.tape, h.output, h.size, fun k hk => h.block k (by omega) (by omega) (by omega)⟩
theorem But.map {g q b n : Nat} {w w' : World} {P : Program} {k : TypeId} {R : Value → Option (DataW Unit × List MemPlace)} {D : DataW Unit} (h : But g q w w') (hm : w.ownsMap P k R b n D) (h1 : b ≠ g) (h2 : b ≠ q) : w'.ownsMap P k R b n D := by
 have hlt := hm.lt
 obtain ⟨es, ck, e1, F, e2, e3⟩ := hm
 exact ⟨es, ck, (h.block b hlt h1 h2).trans e1, F, e2, e3⟩
set_option maxHeartbeats 1000000 in
set_option maxRecDepth 100000 in
theorem add_any {gp : Nat} {rs : List Nat} {w : World} {B g n c : Nat} {l : List (Int × Int)} (x y : Int) (h : BoxR gp rs w B g n c l) (hn : n ≤ 1000000000) :
  Calls Try.prog 63 #[.pointer (some ⟨gp, 0, none⟩), .int .i64 x, .int .i64 y] w fun e w' => e = .returned (.tuple #[]) ∧
   ∃ g' c', BoxR gp (rs ++ [w.heap.size]) w' B g' (n + 1) c' (l ++ [(x, y)]) ∧ But g gp w w' ∧ (g' = g ∨ w.heap.size ≤ g') := by
 obtain ⟨i0, hi, hz0, hz1, hz2⟩ := info_parts infoR
 have HI := Lib.hid (And.intro hi (And.intro hz0 (And.intro hz1 hz2)))
 clear hi hz0 hz1 hz2
 have hgp : gp < w.heap.size := (Array.getElem?_eq_some_iff.1 h.box).1
 have hg0 : g < w.heap.size := h.rows.hi
 have c0 := (block_cell h.box 0).trans rfl
 have hroom := h.rows.room
 have hBs : B ≤ w.heap.size := by have := h.rows.lo; omega
 obtain ⟨hb, hX, hY, hsz⟩ := twice w #[.int .i64 x, .int .i64 y] #[.slice (some ⟨w.heap.size, 0, none⟩) 2 2] 3 31
 have hnew : Items rowEnc 1 ((w.alloc (.cells #[.int .i64 x, .int .i64 y] 3)).alloc (.cells #[.slice (some ⟨w.heap.size, 0, none⟩) 2 2] 31)) (some ⟨w.heap.size + 1, 0, none⟩) 1 [w.heap.size] := by
  have := items_new rowEnc_len (w.alloc (.cells #[.int .i64 x, .int .i64 y] 3)) w.heap.size 31
  rw [World.size_alloc] at this
  exact this
 have H := Lib.hid h
 have HB := Lib.hid hb
 have HX := Lib.hid hX
 have HN := Lib.hid hnew
 have hsz2 : w.heap.size + 2 ≤ ((w.alloc (.cells #[.int .i64 x, .int .i64 y] 3)).alloc (.cells #[.slice (some ⟨w.heap.size, 0, none⟩) 2 2] 31)).heap.size := by omega
 have HSZ := Lib.hid hsz
 clear h hb hX hY hsz hnew
 have HR := Lib.hid (H.out.rows.own.same HB.out)
 go_enter Try.func63, Try.ntmps63
 go_wp2_with (at_builtin; refine wpl_app_rows rfl (.tmp 9) (.tmp 13) 76 rfl 31 i0 (.slice none 0 0) 24 Try.underlying76 HI.out.1 HI.out.2.1 HI.out.2.2.1 HI.out.2.2.2 rfl rfl HR.out rfl HN.out (by omega) ?c1 ?c2 ?_)
 case c1 => omega
 case c2 => omega
 intro g' c' w3 ho hg hg'
 have hb3 : w3.heap[gp]? = some (.cells #[.slice (some ⟨g, 0, none⟩) n c] 76 (0, 0)) := by
  have hne := H.out.ne
  rw [hg.block gp (by omega) (fun e => hne (Option.some.inj e)), HB.out.block gp hgp]
  exact H.out.box
 have d0 := (block_cell hb3 0).trans rfl
 have f0 := block_frozen hb3 0
 have HO := Lib.hid ho
 have HG := Lib.hid hg
 have HG' := Lib.hid hg'
 have HB3 := Lib.hid hb3
 clear ho hg hg' hb3 c0
 go_wp2_with fail
 go_returns
 have hwh : g' = g ∨ g' = ((w.alloc (.cells #[.int .i64 x, .int .i64 y] 3)).alloc (.cells #[.slice (some ⟨w.heap.size, 0, none⟩) 2 2] 31)).heap.size := by
  rw [HSZ.out]
  exact HG'.out
 have hszW := HSZ.out
 generalize (w.alloc (.cells #[.int .i64 x, .int .i64 y] 3)).alloc (.cells #[.slice (some ⟨w.heap.size, 0, none⟩) 2 2] 31) = W2 at *
 have hpush := ((H.out.rows.same HB.out).push (p := (x, y)) HX.out (by omega) (by omega) (fun q hq => (H.out.rows.out q hq).2.1) HO.out HG.out hwh)
 have hne := H.out.ne
 have hgg : gp ≠ g' := by
  rcases hwh with e | e <;> omega
 have hgs := HG.out.size
 have hset : w3.grownBy (w3.setCell ⟨gp, 0, none⟩ (.slice (some ⟨g', 0, none⟩) (n + 1 : Nat) c')) (some gp) := put_grown w3 gp 0 _
 have hnin : gp ∉ rs ++ [w.heap.size] := by
  intro hm
  rcases List.mem_append.1 hm with h1 | h1
  ·exact H.out.nin h1
  ·have : gp = w.heap.size := by simpa using h1
   omega
 refine ⟨rfl, g', c', ⟨heap_setCell_same w3 gp 0 _ _ _ HB3.out, ?_, hgg, hnin, H.out.lo⟩, ⟨?_, ?_, ?_, ?_, fun k hk h1 h2 => ?_⟩, ?_⟩
 ·have := hpush.other hset hgg hnin
  rw [World.size_setCell]
  exact this
 ·exact hset.os.trans (HG.out.os.trans HB.out.os)
 ·exact hset.tape.trans (HG.out.tape.trans HB.out.tape)
 ·exact hset.output.trans (HG.out.output.trans HB.out.output)
 ·rw [World.size_setCell]; omega
 ·rw [hset.block k (by omega) (fun e => h2 (Option.some.inj e)), HG.out.block k (by omega) (fun e => h1 (Option.some.inj e)), HB.out.block k hk]
 ·rcases hwh with e | e
  ·exact Or.inl e
  ·exact Or.inr (by omega)
set_option maxRecDepth 100000 in
theorem addTurned_any {gp : Nat} {rs : List Nat} {w : World} {B g n c : Nat} {l : List (Int × Int)} (y x : Int) (h : BoxR gp rs w B g n c l) (hn : n ≤ 1000000000) :
  Calls Try.prog 64 #[.pointer (some ⟨gp, 0, none⟩), .int .i64 y, .int .i64 x] w fun e w' => e = .returned (.tuple #[]) ∧
   ∃ g' c', BoxR gp (rs ++ [w.heap.size]) w' B g' (n + 1) c' (l ++ [(x, y)]) ∧ But g gp w w' ∧ (g' = g ∨ w.heap.size ≤ g') := by
 have HA := Lib.hid (add_any x y h hn)
 clear h
 go_enter Try.func64, Try.ntmps64
 go_wp2_with fail
 refine HA.out.mono ?_
 rintro e w' ⟨rfl, hh⟩
 have HH := Lib.hid hh
 clear hh
 go_wp2_with fail
 go_returns
 exact ⟨rfl, HH.out⟩
end Go.Proofs.Ytckmgbobkffabaa
