/- Whether a machine in a state sends a message that another one does not receive: by the program. Lists of pairs of integers, each pair a slice in a block of its own. No function of the program is spoken of. -/
import Derived.Test.YtckmgbobkffabaaGreatG20
import Derived.Test.YtckmgbobkffabaaGreatG7
import Derived.Test.YtckmgbobkffabaaGreatG5
import Derived.Test.YtckmgbobkffabaaGreatG6
import Derived.Test.YtckmgbobkffabaaGreatG1
namespace Go.Proofs.YtckmgbobkffabaaGreat
open Go.ChangeShapes Go.WideShapes Go.ChangeAt Go.RowKit
set_option linter.unusedVariables false
set_option linter.unusedSimpArgs false

theorem four_twice (w : World) (c1 c2 : Array Value) (t1 t2 : TypeId) : Below w.heap.size w ((w.alloc (.cells c1 t1)).alloc (.cells c2 t2)) ∧ ((w.alloc (.cells c1 t1)).alloc (.cells c2 t2)).heap[w.heap.size]? = some (.cells c1 t1 (0, 0)) ∧
  ((w.alloc (.cells c1 t1)).alloc (.cells c2 t2)).heap[w.heap.size + 1]? = some (.cells c2 t2 (0, 0)) ∧ ((w.alloc (.cells c1 t1)).alloc (.cells c2 t2)).heap.size = w.heap.size + 2 := twice w c1 c2 t1 t2
theorem movesFrom_wf {x : Mac} {s : Int} {b : Bool} (hz : ∀ z ∈ x.moves, Wmv z) {k : Int} (hk : k ∈ movesFrom x s b) : (Lit.int .i64 k).wf = true := by
 obtain ⟨m, h1, h2⟩ := mem_movesFrom.1 hk
 rw [← (hitM_iff.1 h2).2.2]
 exact (hz m h1).1
theorem party_eq (a b c : Value) (s : Int) : partyV (.agg #[a, b, c]) s = .agg #[a, b, c, .int .i64 s] := rfl
set_option maxRecDepth 100000 in
theorem sendsUnread_any {v v' : Value} {x y : Mac} (s t : Int) {w : World} (h : MacW w v x) (h' : MacW w v' y) (hz : ∀ z ∈ x.moves, Wmv z) (hz' : ∀ z ∈ y.moves, Wmv z) (hn : x.parts ≤ 1000000000) (hn' : y.parts ≤ 1000000000) :
  Calls Tryz.prog 70 #[partyV v s, partyV v' t] w (Told (.bool (unreadP x y s t)) w) := by
 obtain ⟨p, np, cp, a, n, c, rfl⟩ := h.shape
 obtain ⟨p', np', cp', a', n', c', rfl⟩ := h'.shape
 obtain ⟨hB, hX, hY, hS⟩ := twice w #[.int .i64 x.st, .slice p np cp, .slice a n c, .int .i64 s] #[.int .i64 y.st, .slice p' np' cp', .slice a' n' c', .int .i64 t] 76 76
 have HB := Lib.hid hB
 have HX := Lib.hid (four_at hX)
 have HY := Lib.hid (four_at hY)
 have HN : Hid (∀ W', Below w.heap.size w W' → Calls Tryz.prog 54 #[.agg #[.int .i64 y.st, .slice p' np' cp', .slice a' n' c', .int .i64 t], .bool false] W' fun e w' => ∃ g, e = .returned (.map (some g)) ∧ W'.heap.size ≤ g ∧ w'.ownsMap Tryz.prog 3 (plainElem (H := Unit) Tryz.prog 3) g y.moves.length (nx t false y.moves) ∧ Below W'.heap.size W' w') := Lib.hid fun W' hb => by
  have q := next_any t false (h'.same hb) hz' (by omega)
  rw [party_eq] at q
  exact q
 have HT : Hid (∀ W', Below w.heap.size w W' → Calls Tryz.prog 80 #[.agg #[.int .i64 x.st, .slice p np cp, .slice a n c, .int .i64 s]] W' (Made .i64 3 W'.heap.size (movesFrom x s true) W')) := Lib.hid fun W' hb => by
  have q := sent_any s (h.same hb) (by omega)
  rw [party_eq] at q
  exact q
 have HZ := Lib.hid hz
 clear hB hX hY hS h h' hz hz'
 rw [party_eq, party_eq]
 go_enter Tryz.func70, Tryz.ntmps70
 go_wp2_with fail
 generalize ((w.alloc (.cells #[.int .i64 x.st, .slice p np cp, .slice a n c, .int .i64 s] 76)).alloc (.cells #[.int .i64 y.st, .slice p' np' cp', .slice a' n' c', .int .i64 t] 76)) = W0 at *
 refine (HN.out W0 HB.out).mono ?_
 rintro e w1 ⟨g, rfl, hg, hm, hb⟩
 have HB1 := Lib.hid (HB.out.trans (hb.mono HB.out.size))
 have HM := Lib.hid hm
 obtain ⟨x0, x1, x2, x3⟩ := HX.out
 replace HX := Lib.hid (And.intro (cell_stay x0 hb) (And.intro (cell_stay x1 hb) (And.intro (cell_stay x2 hb) (cell_stay x3 hb))))
 clear hb hm x0 x1 x2 x3
 have HA := Lib.hid (alloc_same w1 (.cells #[.map (some g)] 79))
 have HG := Lib.hid ((block_cell (heap_alloc_new w1 (.cells #[.map (some g)] 79 (0, 0))) 0).trans rfl)
 obtain ⟨x0, x1, x2, x3⟩ := HX.out
 replace HX := Lib.hid (And.intro (cell_stay x0 HA.out) (And.intro (cell_stay x1 HA.out) (And.intro (cell_stay x2 HA.out) (cell_stay x3 HA.out))))
 have HM2 := Lib.hid (HM.out.alloc (.cells #[.map (some g)] 79))
 clear x0 x1 x2 x3
 obtain ⟨x0, x1, x2, x3⟩ := HX.out
 go_wp2_with fail
 clear x0 x1 x2 x3
 generalize (w1.alloc (.cells #[.map (some g)] 79)) = W2 at *
 have HB2 := Lib.hid (HB1.out.trans (HA.out.mono HB1.out.size))
 refine (HT.out W2 HB2.out).mono ?_
 rintro e w3 ⟨a3, n3, c3, rfl, ho, hb⟩
 have HB3 := Lib.hid (HB2.out.trans (hb.mono HB2.out.size))
 have HCF := Lib.hid (containsUnread_any (c := c3) (ptr := .pointer (some ⟨w1.heap.size, 0, none⟩)) (p := fun k => (toOf y.moves t false k).isNone) ho.nums (fun k w' hk hb' => unread1_any (movesFrom_wf HZ.out hk) (cell_stay (cell_stay HG.out hb) hb') ((HM2.out.kept (grown_below hb none) (by simp)).kept (grown_below hb' none) (by simp))))
 clear ho hb
 go_wp2_with fail
 refine HCF.out.mono ?_
 rintro e w4 ⟨rfl, hb⟩
 have HB4 := Lib.hid (HB3.out.trans (hb.mono HB3.out.size))
 clear hb
 go_wp2_with fail
 go_ret
 exact ⟨rfl, HB4.out⟩
end Go.Proofs.YtckmgbobkffabaaGreat
namespace Go.Proofs.YtckmgbobkffabaaGreat
open Go.ChangeShapes Go.WideShapes Go.ChangeAt Go.RowKit
set_option linter.unusedVariables false

/-- A row as it lies: the block of its two integers. -/
def rowEnc (r : Nat) : List Value := [.slice (some ⟨r, 0, none⟩) 2 2]
theorem rowEnc_len (r : Nat) : (rowEnc r).length = 1 := rfl
theorem rowEnc_one (r : Nat) : ∀ u ∈ rowEnc r, u.oneCell' = true := by
 intro u hu
 have : u = .slice (some ⟨r, 0, none⟩) 2 2 := by simpa [rowEnc] using hu
 subst this
 rfl
/-- The two cells of a pair. -/
def two (p : Int × Int) : Obj := .cells #[.int .i64 p.1, .int .i64 p.2] 3 (0, 0)
/-- The list of pairs is the call's own, in blocks from B on and below S; its rows lie at rs. -/
structure OwnRs (rs : List Nat) (S : Nat) (w : World) (B g n c : Nat) (l : List (Int × Int)) : Prop where
 own : OwnI rowEnc 1 36 w B (some ⟨g, 0, none⟩) n c rs
 len : rs.length = l.length
 row : ∀ (j r : Nat) (p : Int × Int), rs[j]? = some r → l[j]? = some p → w.heap[r]? = some (two p)
 out : ∀ r ∈ rs, B ≤ r ∧ r < S ∧ r ≠ g
 inc : rs.Pairwise (· < ·)
 lo : B ≤ g
 hi : g < S
 top : S ≤ w.heap.size
def OwnR (S : Nat) (w : World) (B g n c : Nat) (l : List (Int × Int)) : Prop := ∃ rs, OwnRs rs S w B g n c l
section
variable {rs : List Nat} {S : Nat} {w w' : World} {B g n c : Nat} {l : List (Int × Int)}
theorem OwnRs.count (h : OwnRs rs S w B g n c l) : l.length = n := by rw [← h.len]; exact h.own.len
theorem OwnRs.room (h : OwnRs rs S w B g n c l) : n ≤ c ∧ (c : Int) ≤ 9223372036854775807 := h.own.room
theorem OwnRs.same (h : OwnRs rs S w B g n c l) (hb : Below w.heap.size w w') : OwnRs rs S w' B g n c l :=
 ⟨h.own.same hb, h.len, fun j r p h1 h2 => by
  have := (h.out r (List.mem_of_getElem? h1)).2.1
  have ht := h.top
  rw [hb.block _ (by omega)]
  exact h.row j r p h1 h2, h.out, h.inc, h.lo, h.hi, Nat.le_trans h.top hb.size⟩
theorem OwnRs.aside {lo hi : Nat} (h : OwnRs rs S w B g n c l) (hg : Inside lo hi w w') (hd : hi ≤ B ∨ S ≤ lo) : OwnRs rs S w' B g n c l := by
 have hlo := h.lo
 have hhi := h.hi
 have ht := h.top
 refine ⟨h.own.aside hg (lo' := B) (hi' := S) (fun ad e => by cases e; exact ⟨hlo, hhi⟩) (by omega), h.len, fun j r p h1 h2 => ?_, h.out, h.inc, hlo, hhi, Nat.le_trans ht hg.size⟩
 obtain ⟨o1, o2, o3⟩ := h.out r (List.mem_of_getElem? h1)
 rw [hg.block _ (by omega) (by omega)]
 exact h.row j r p h1 h2
theorem OwnRs.lower {B' : Nat} (h : OwnRs rs S w B g n c l) (hB : B' ≤ B) : OwnRs rs S w B' g n c l :=
 ⟨h.own.lower hB, h.len, h.row, fun r hr => ⟨Nat.le_trans hB (h.out r hr).1, (h.out r hr).2⟩, h.inc, Nat.le_trans hB h.lo, h.hi, h.top⟩
theorem OwnRs.upper {S' : Nat} (h : OwnRs rs S w B g n c l) (h1 : S ≤ S') (h2 : S' ≤ w.heap.size) : OwnRs rs S' w B g n c l :=
 ⟨h.own, h.len, h.row, fun r hr => ⟨(h.out r hr).1, Nat.lt_of_lt_of_le (h.out r hr).2.1 h1, (h.out r hr).2.2⟩, h.inc, h.lo, Nat.lt_of_lt_of_le h.hi h1, h2⟩
theorem OwnRs.at_ (h : OwnRs rs S w B g n c l) {j : Nat} (hj : j < n) : ∃ r p, rs[j]? = some r ∧ l[j]? = some p ∧ w.cell? ⟨g, j, none⟩ = some (.slice (some ⟨r, 0, none⟩) 2 2) ∧ w.heap[r]? = some (two p) ∧ B ≤ r ∧ r < S ∧ r ≠ g := by
 have hl := h.count
 have hk : j < rs.length := by rw [h.len]; omega
 obtain ⟨b, o, r, e, hr, hc⟩ := (h.own.items rowEnc_len).at_ (j := j) hj
 cases e
 have hp : l[j]? = some (l[j]'(by omega)) := List.getElem?_eq_getElem (by omega)
 refine ⟨r, _, hr, hp, by simpa using hc 0 _ rfl, h.row j r _ hr hp, h.out r (List.mem_of_getElem? hr)⟩
theorem two_own {r : Nat} {p : Int × Int} (h : w.heap[r]? = some (two p)) (hB : B ≤ r) : Own .i64 3 w B (some ⟨r, 0, none⟩) 2 2 [p.1, p.2] :=
 ⟨rfl, rfl, .inr ⟨r, 2, _, rfl, hB, h, Nat.le_refl _, by unfold maxLen; omega, rfl, rfl⟩⟩
theorem own_two {r : Nat} {x y : Int} (h : Own .i64 3 w B (some ⟨r, 0, none⟩) 2 2 [x, y]) : w.heap[r]? = some (two (x, y)) := by
 rcases h.2.2 with ⟨e, _⟩ | ⟨g, cap, cur, e, _, hg, _, _, hs, ht⟩
 ·cases e
 ·injection e with e1 e2 e3
  injection e1 with e1
  injection e1 with e1
  subst e1
  subst e3
  have h2 : cur.toList.take (2 * 1) = cur.toList := List.take_of_length_le (by simp; omega)
  rw [h2] at ht
  have : cur = #[.int .i64 x, .int .i64 y] := by
   apply Array.ext'
   rw [ht]
   rfl
  rw [hg, this]
  rfl
theorem two_cells {r : Nat} {p : Int × Int} (h : w.heap[r]? = some (two p)) : w.cell? ⟨r, 0, none⟩ = some (.int .i64 p.1) ∧ w.cell? ⟨r, 1, none⟩ = some (.int .i64 p.2) :=
 ⟨(block_cell h 0).trans rfl, (block_cell h 1).trans rfl⟩
/-- What is written to one row. -/
theorem OwnRs.put (h : OwnRs rs S w B g n c l) {j r : Nat} (hr : rs[j]? = some r) {p : Int × Int} (hg : w.grownBy w' (some r)) (hp : w'.heap[r]? = some (two p)) : OwnRs rs S w' B g n c (l.set j p) := by
 obtain ⟨o1, o2, o3⟩ := h.out r (List.mem_of_getElem? hr)
 have ht := h.top
 refine ⟨?_, by rw [List.length_set]; exact h.len, fun i q v h1 h2 => ?_, h.out, h.inc, h.lo, h.hi, Nat.le_trans ht hg.size⟩
 ·refine ⟨h.own.1, h.own.2.kept hg (Or.inr ?_)⟩
  simp only [Value.ownBlock, ne_eq, Option.some.injEq]
  omega
 ·by_cases e : i = j
  ·subst e
   rw [hr] at h1
   cases h1
   rw [List.getElem?_set_self (by rw [← h.len]; exact at_lt hr)] at h2
   cases h2
   exact hp
  ·rw [List.getElem?_set_ne (by omega)] at h2
   have hne : q ≠ r := by
    have hi := at_lt h1
    have hj := at_lt hr
    rw [List.getElem?_eq_getElem hi] at h1
    rw [List.getElem?_eq_getElem hj] at hr
    cases h1
    cases hr
    rcases Nat.lt_or_gt_of_ne e with q1 | q1
    ·have := List.pairwise_iff_getElem.1 h.inc _ _ hi hj q1
     omega
    ·have := List.pairwise_iff_getElem.1 h.inc _ _ hj hi q1
     omega
   obtain ⟨p1, p2, p3⟩ := h.out q (List.mem_of_getElem? h1)
   rw [hg.block q (by omega) (fun e2 => hne (Option.some.inj e2))]
   exact h.row i q v h1 h2
/-- A row that is newer than all others was appended. -/
theorem OwnRs.push (h : OwnRs rs S w B g n c l) {r g' c' : Nat} {p : Int × Int} (hp : w.heap[r]? = some (two p)) (hS : B ≤ r) (hne : r ≠ g) (hlt : ∀ q ∈ rs, q < r)
  (ho : OwnI rowEnc 1 36 w' B (some ⟨g', 0, none⟩) (n + 1) c' (rs ++ [r])) (hg : w.grownBy w' (some g)) (hg' : g' = g ∨ g' = w.heap.size) : OwnRs (rs ++ [r]) w'.heap.size w' B g' (n + 1) c' (l ++ [p]) := by
 have hrs : r < w.heap.size := (Array.getElem?_eq_some_iff.1 hp).1
 have ht := h.top
 have hlo := h.lo
 have hhi := h.hi
 have hsz := hg.size
 obtain ⟨_, _, hg9⟩ := ho.head (by omega)
 have hB' : B ≤ g' := by
  obtain ⟨q, e, h1, _⟩ := ho.head (by omega)
  cases e
  exact h1
 have hg1 : g' < w'.heap.size := (ho.span _ rfl).2
 refine ⟨ho, by simp [h.len], fun j q v h1 h2 => ?_, fun q hq => ?_, ?_, hB', hg1, Nat.le_refl _⟩
 ·rcases Nat.lt_or_ge j rs.length with hj | hj
  ·rw [List.getElem?_append_left hj] at h1
   rw [List.getElem?_append_left (by rw [← h.len]; exact hj)] at h2
   obtain ⟨p1, p2, p3⟩ := h.out q (List.mem_of_getElem? h1)
   rw [hg.block q (by omega) (fun e2 => p3 (Option.some.inj e2))]
   exact h.row j q v h1 h2
  ·rw [List.getElem?_append_right hj] at h1
   rw [List.getElem?_append_right (by rw [← h.len]; exact hj), ← h.len] at h2
   have hj0 : j - rs.length = 0 := by
    have := at_lt h1
    simp at this
    omega
   rw [hj0] at h1 h2
   simp at h1 h2
   subst h1
   subst h2
   rw [hg.block r hrs (fun e2 => hne (Option.some.inj e2))]
   exact hp
 ·rcases List.mem_append.1 hq with h1 | h1
  ·obtain ⟨p1, p2, p3⟩ := h.out q h1
   exact ⟨p1, by omega, by omega⟩
  ·have : q = r := by simpa using h1
   subst this
   exact ⟨hS, by omega, by omega⟩
 ·rw [List.pairwise_append]
  exact ⟨h.inc, by simp, fun a ha b hb => by
   have : b = r := by simpa using hb
   subst this
   exact hlt a ha⟩
theorem OwnRs.nil (hB : B ≤ w.heap.size) : OwnRs [] (w.heap.size + 1) (w.alloc (.cells #[] 36)) B w.heap.size 0 0 [] :=
 ⟨own_emptyI _ hB, rfl, fun j r p h => by simp at h, fun r hr => by simp at hr, by simp, hB, by omega, by simp⟩
theorem OwnR.same (h : OwnR S w B g n c l) (hb : Below w.heap.size w w') : OwnR S w' B g n c l := by
 obtain ⟨rs, h⟩ := h
 exact ⟨rs, h.same hb⟩
theorem OwnR.aside {lo hi : Nat} (h : OwnR S w B g n c l) (hg : Inside lo hi w w') (hd : hi ≤ B ∨ S ≤ lo) : OwnR S w' B g n c l := by
 obtain ⟨rs, h⟩ := h
 exact ⟨rs, h.aside hg hd⟩
theorem OwnR.lower {B' : Nat} (h : OwnR S w B g n c l) (hB : B' ≤ B) : OwnR S w B' g n c l := by
 obtain ⟨rs, h⟩ := h
 exact ⟨rs, h.lower hB⟩
theorem OwnR.count (h : OwnR S w B g n c l) : l.length = n := by
 obtain ⟨rs, h⟩ := h
 exact h.count
theorem OwnR.room (h : OwnR S w B g n c l) : n ≤ c ∧ (c : Int) ≤ 9223372036854775807 := by
 obtain ⟨rs, h⟩ := h
 exact h.room
theorem OwnR.at_ (h : OwnR S w B g n c l) {j : Nat} (hj : j < n) : ∃ r p, l[j]? = some p ∧ w.cell? ⟨g, j, none⟩ = some (.slice (some ⟨r, 0, none⟩) 2 2) ∧ w.heap[r]? = some (two p) ∧ B ≤ r ∧ r < S ∧ r ≠ g := by
 obtain ⟨rs, h⟩ := h
 obtain ⟨r, p, _, h2⟩ := h.at_ hj
 exact ⟨r, p, h2⟩
end
/-- What a function leaves that makes a list of pairs. -/
def MadeR (B : Nat) (l : List (Int × Int)) (w : World) (e : Ending) (w' : World) : Prop :=
 ∃ g n c, e = .returned (.slice (some ⟨g, 0, none⟩) n c) ∧ OwnR w'.heap.size w' B g n c l ∧ Below B w w'
/-- The marks of n pairs, from k on. -/
def marksR (k n : Nat) : List (Int × Int) := (List.range n).map fun j => (((k + j * 2 : Nat) : Int), ((k + j * 2 + 1 : Nat) : Int))
theorem marksR_len (k n : Nat) : (marksR k n).length = n := by simp [marksR]
theorem marksR_get {k n i : Nat} (h : i < n) : (marksR k n)[i]? = some (((k + i * 2 : Nat) : Int), ((k + i * 2 + 1 : Nat) : Int)) := by unfold marksR; simp [h]
theorem marksR_step {l : List (Int × Int)} {i n k : Nat} (hi : i < n) (hn : l.length = n) : (marksR k i ++ l.drop i).set i (((k + i * 2 : Nat) : Int), ((k + i * 2 + 1 : Nat) : Int)) = marksR k (i + 1) ++ l.drop (i + 1) := by
 rw [List.set_append_right _ _ (by rw [marksR_len]; exact Nat.le_refl _), marksR_len, Nat.sub_self, List.drop_eq_getElem_cons (by omega), List.set_cons_zero]
 have : marksR k (i + 1) = marksR k i ++ [(((k + i * 2 : Nat) : Int), ((k + i * 2 + 1 : Nat) : Int))] := by simp [marksR, List.range_succ]
 rw [this, List.append_assoc]
 rfl
end Go.Proofs.YtckmgbobkffabaaGreat
