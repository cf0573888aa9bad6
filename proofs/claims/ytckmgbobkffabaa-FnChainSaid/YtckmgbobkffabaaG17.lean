/- Whether a machine in a state sends a message that another one does not receive: by the program. Pairs that are reached, whatever says which ones follow; what two machines do together. No function of the program is spoken of. -/
import Derived.Test.YtckmgbobkffabaaG16
import Derived.Test.YtckmgbobkffabaaG14
import Derived.Test.YtckmgbobkffabaaG1
namespace Go.Proofs.Ytckmgbobkffabaa
open Go.ChangeShapes Go.WideShapes Go.ChangeAt Go.RowKit
set_option linter.unusedVariables false
set_option linter.unusedSimpArgs false

theorem four_twice (w : World) (c1 c2 : Array Value) (t1 t2 : TypeId) : Below w.heap.size w ((w.alloc (.cells c1 t1)).alloc (.cells c2 t2)) ∧ ((w.alloc (.cells c1 t1)).alloc (.cells c2 t2)).heap[w.heap.size]? = some (.cells c1 t1 (0, 0)) ∧
  ((w.alloc (.cells c1 t1)).alloc (.cells c2 t2)).heap[w.heap.size + 1]? = some (.cells c2 t2 (0, 0)) ∧ ((w.alloc (.cells c1 t1)).alloc (.cells c2 t2)).heap.size = w.heap.size + 2 := twice w c1 c2 t1 t2
theorem movesFrom_wf {x : Mac} {s : Int} {b : Bool} (hz : ∀ z ∈ x.moves, Wmv z) {k : Int} (hk : k ∈ movesFrom x s b) : (Lit.int .i64 k).wf = true := by
 obtain ⟨m, h1, h2⟩ := mem_movesFrom.1 hk
 rw [← (hitM_iff.1 h2).2.2]
 exact (hz m h1).1
theorem party_eq (a b c : Value) (s : Int) : partyV (.agg #[a, b, c]) s = .agg #[a, b, c, .int .i64 s] := rfl
set_option maxRecDepth 100000 in
theorem sendsUnread_any {v v' : Value} {x y : Mac} (s t : Int) {w : World} (h : MacW w v x) (h' : MacW w v' y) (hz : ∀ z ∈ x.moves, Wmv z) (hz' : ∀ z ∈ y.moves, Wmv z) (hn : x.parts ≤ 1000000000) (hn' : y.parts ≤ 1000000000) :
  Calls Try.prog 60 #[partyV v s, partyV v' t] w (Told (.bool (unreadP x y s t)) w) := by
 obtain ⟨p, np, cp, a, n, c, rfl⟩ := h.shape
 obtain ⟨p', np', cp', a', n', c', rfl⟩ := h'.shape
 obtain ⟨hB, hX, hY, hS⟩ := twice w #[.int .i64 x.st, .slice p np cp, .slice a n c, .int .i64 s] #[.int .i64 y.st, .slice p' np' cp', .slice a' n' c', .int .i64 t] 73 73
 have HB := Lib.hid hB
 have HX := Lib.hid (four_at hX)
 have HY := Lib.hid (four_at hY)
 have HN : Hid (∀ W', Below w.heap.size w W' → Calls Try.prog 93 #[.agg #[.int .i64 y.st, .slice p' np' cp', .slice a' n' c', .int .i64 t], .bool false] W' fun e w' => ∃ g, e = .returned (.map (some g)) ∧ W'.heap.size ≤ g ∧ w'.ownsMap Try.prog 3 (plainElem (H := Unit) Try.prog 3) g y.moves.length (nx t false y.moves) ∧ Below W'.heap.size W' w') := Lib.hid fun W' hb => by
  have q := next_any t false (h'.same hb) hz' (by omega)
  rw [party_eq] at q
  exact q
 have HT : Hid (∀ W', Below w.heap.size w W' → Calls Try.prog 95 #[.agg #[.int .i64 x.st, .slice p np cp, .slice a n c, .int .i64 s]] W' (Made .i64 3 W'.heap.size (movesFrom x s true) W')) := Lib.hid fun W' hb => by
  have q := sent_any s (h.same hb) (by omega)
  rw [party_eq] at q
  exact q
 have HZ := Lib.hid hz
 clear hB hX hY hS h h' hz hz'
 rw [party_eq, party_eq]
 go_enter Try.func60, Try.ntmps60
 go_wp2_with fail
 generalize ((w.alloc (.cells #[.int .i64 x.st, .slice p np cp, .slice a n c, .int .i64 s] 73)).alloc (.cells #[.int .i64 y.st, .slice p' np' cp', .slice a' n' c', .int .i64 t] 73)) = W0 at *
 refine (HN.out W0 HB.out).mono ?_
 rintro e w1 ⟨g, rfl, hg, hm, hb⟩
 have HB1 := Lib.hid (HB.out.trans (hb.mono HB.out.size))
 have HM := Lib.hid hm
 obtain ⟨x0, x1, x2, x3⟩ := HX.out
 replace HX := Lib.hid (And.intro (cell_stay x0 hb) (And.intro (cell_stay x1 hb) (And.intro (cell_stay x2 hb) (cell_stay x3 hb))))
 clear hb hm x0 x1 x2 x3
 have HA := Lib.hid (alloc_same w1 (.cells #[.map (some g)] 107))
 have HG := Lib.hid ((block_cell (heap_alloc_new w1 (.cells #[.map (some g)] 107 (0, 0))) 0).trans rfl)
 obtain ⟨x0, x1, x2, x3⟩ := HX.out
 replace HX := Lib.hid (And.intro (cell_stay x0 HA.out) (And.intro (cell_stay x1 HA.out) (And.intro (cell_stay x2 HA.out) (cell_stay x3 HA.out))))
 have HM2 := Lib.hid (HM.out.alloc (.cells #[.map (some g)] 107))
 clear x0 x1 x2 x3
 obtain ⟨x0, x1, x2, x3⟩ := HX.out
 go_wp2_with fail
 clear x0 x1 x2 x3
 generalize (w1.alloc (.cells #[.map (some g)] 107)) = W2 at *
 have HB2 := Lib.hid (HB1.out.trans (HA.out.mono HB1.out.size))
 refine (HT.out W2 HB2.out).mono ?_
 rintro e w3 ⟨a3, n3, c3, rfl, ho, hb⟩
 have HB3 := Lib.hid (HB2.out.trans (hb.mono HB2.out.size))
 have HCF := Lib.hid (containsUnread_any (c := c3) (ptr := .pointer (some ⟨w1.heap.size, 0, none⟩)) (p := fun k => (toOf y.moves t false k).isNone) ho.nums (fun k w' hk hb' => unread1_any (movesFrom_wf HZ.out hk) (cell_stay (cell_stay HG.out hb) hb') ((HM2.out.kept (grown_below hb none) (by simp)).kept (grown_below hb' none) (by simp))))
 clear ho hb
 go_wp2_with fail
 refine HCF.out.mono ?_
 rintro e w4 ⟨rfl, hb⟩
 have HB4 := Lib.hid (HB3.out.trans (hb.mono HB3.out.size))
 clear hb
 go_wp2_with fail
 go_ret
 exact ⟨rfl, HB4.out⟩
end Go.Proofs.Ytckmgbobkffabaa
namespace Go.Proofs.Ytckmgbobkffabaa
open Go.ChangeShapes Go.WideShapes Go.ChangeAt Go.RowKit
set_option linter.unusedVariables false

/-- What is found once the first i pairs were looked at. -/
def foundG (nx : Int → Int → List (Int × Int)) : Nat → List (Int × Int)
 | 0 => [(0, 0)]
 | i + 1 => match (foundG nx i)[i]? with
  | some p => growP (foundG nx i) (nx p.1 p.2)
  | none => foundG nx i
/-- A pair that is reached. -/
inductive ReachG (nx : Int → Int → List (Int × Int)) : Int × Int → Prop
 | start : ReachG nx (0, 0)
 | step {p q : Int × Int} : ReachG nx p → q ∈ nx p.1 p.2 → ReachG nx q
/-- No more than six states on either side. -/
def SmallG (nx : Int → Int → List (Int × Int)) : Prop := ∀ p, ReachG nx p → (0 ≤ p.1 ∧ p.1 < 6) ∧ 0 ≤ p.2 ∧ p.2 < 6
theorem found_eq (a b : Mac) : ∀ i, found a b i = foundG (nextP a b) i
 | 0 => rfl
 | i + 1 => by
  show (match (found a b i)[i]? with
   | some p => growP (found a b i) (nextP a b p.1 p.2)
   | none => found a b i) = (match (foundG (nextP a b) i)[i]? with
   | some p => growP (foundG (nextP a b) i) (nextP a b p.1 p.2)
   | none => foundG (nextP a b) i)
  rw [found_eq a b i]
theorem foundG_none {nx : Int → Int → List (Int × Int)} {i : Nat} (h : (foundG nx i)[i]? = none) : foundG nx (i + 1) = foundG nx i := by
 show (match (foundG nx i)[i]? with
  | some p => growP (foundG nx i) (nx p.1 p.2)
  | none => foundG nx i) = _
 rw [h]
theorem foundG_step {nx : Int → Int → List (Int × Int)} {i : Nat} {p : Int × Int} (h : (foundG nx i)[i]? = some p) : foundG nx (i + 1) = growP (foundG nx i) (nx p.1 p.2) := by
 show (match (foundG nx i)[i]? with
  | some p => growP (foundG nx i) (nx p.1 p.2)
  | none => foundG nx i) = _
 rw [h]
theorem foundG_nodup (nx : Int → Int → List (Int × Int)) : ∀ i, (foundG nx i).Nodup
 | 0 => by simp [foundG]
 | i + 1 => by
  cases e : (foundG nx i)[i]? with
  | none => rw [foundG_none e]; exact foundG_nodup nx i
  | some p => rw [foundG_step e]; exact growP_nodup (foundG_nodup nx i)
theorem foundG_reach (nx : Int → Int → List (Int × Int)) : ∀ i, ∀ p ∈ foundG nx i, ReachG nx p
 | 0, p, hp => by
  have : p = (0, 0) := by simpa [foundG] using hp
  subst this
  exact ReachG.start
 | i + 1, p, hp => by
  cases e : (foundG nx i)[i]? with
  | none =>
   rw [foundG_none e] at hp
   exact foundG_reach nx i p hp
  | some r =>
   rw [foundG_step e] at hp
   rcases growP_mem.1 hp with h | h
   ·exact foundG_reach nx i p h
   ·exact ReachG.step (foundG_reach nx i r (List.mem_of_getElem? e)) h
theorem foundG_len {nx : Int → Int → List (Int × Int)} (hs : SmallG nx) (i : Nat) : (foundG nx i).length ≤ 36 := by
 have h := nodup_le (m := allP) (foundG_nodup nx i) fun p hp => by
  have h1 := hs p (foundG_reach nx i p hp)
  exact mem_allP h1.1 h1.2
 simpa [allP] using h
theorem foundG_stay {nx : Int → Int → List (Int × Int)} {i : Nat} (h : (foundG nx i).length ≤ i) : ∀ k, foundG nx (i + k) = foundG nx i
 | 0 => rfl
 | k + 1 => by
  have ih := foundG_stay h k
  have e := foundG_none (nx := nx) (i := i + k) (by rw [ih]; exact List.getElem?_eq_none (by omega))
  rw [show i + (k + 1) = i + k + 1 by omega, e, ih]
theorem foundG_end {nx : Int → Int → List (Int × Int)} {i : Nat} (hi : i ≤ 36) (h : (foundG nx i).length ≤ i) : foundG nx i = foundG nx 36 := by
 rw [show (36 : Nat) = i + (36 - i) by omega, foundG_stay h]
theorem foundG_pre1 (nx : Int → Int → List (Int × Int)) (i : Nat) : ∃ r, foundG nx (i + 1) = foundG nx i ++ r := by
 cases e : (foundG nx i)[i]? with
 | none => exact ⟨[], by rw [foundG_none e, List.append_nil]⟩
 | some r => rw [foundG_step e]; exact growP_pre
theorem foundG_pre (nx : Int → Int → List (Int × Int)) (i : Nat) : ∀ k, ∃ r, foundG nx (i + k) = foundG nx i ++ r
 | 0 => ⟨[], by simp⟩
 | k + 1 => by
  obtain ⟨r, e⟩ := foundG_pre nx i k
  obtain ⟨s, e2⟩ := foundG_pre1 nx (i + k)
  exact ⟨r ++ s, by rw [show i + (k + 1) = i + k + 1 by omega, e2, e, List.append_assoc]⟩
theorem foundG_zero (nx : Int → Int → List (Int × Int)) (i : Nat) : (0, 0) ∈ foundG nx i := by
 obtain ⟨r, e⟩ := foundG_pre nx 0 i
 rw [Nat.zero_add] at e
 rw [e]
 exact List.mem_append_left _ (by simp [foundG])
theorem foundG_head (nx : Int → Int → List (Int × Int)) (i : Nat) : 0 < (foundG nx i).length := List.length_pos_of_mem (foundG_zero nx i)
theorem foundG_closed {nx : Int → Int → List (Int × Int)} (hs : SmallG nx) {p q : Int × Int} (hp : p ∈ foundG nx 36) (hq : q ∈ nx p.1 p.2) : q ∈ foundG nx 36 := by
 obtain ⟨j, hj⟩ := List.mem_iff_getElem?.1 hp
 have hL := foundG_len hs 36
 have hjl := at_lt hj
 have hj36 : j < 36 := by omega
 by_cases hjj : j < (foundG nx j).length
 ·obtain ⟨r, e⟩ := foundG_pre nx j (36 - j)
  rw [show j + (36 - j) = 36 by omega] at e
  have hpj : (foundG nx j)[j]? = some p := by
   rw [e, List.getElem?_append_left hjj] at hj
   exact hj
  have h1 : q ∈ foundG nx (j + 1) := by
   rw [foundG_step hpj]
   exact growP_mem.2 (Or.inr hq)
  obtain ⟨r2, e2⟩ := foundG_pre nx (j + 1) (36 - (j + 1))
  rw [show j + 1 + (36 - (j + 1)) = 36 by omega] at e2
  rw [e2]
  exact List.mem_append_left _ h1
 ·have e := foundG_end (nx := nx) (i := j) (by omega) (by omega)
  rw [← e] at hj
  have := at_lt hj
  omega
theorem reach_foundG {nx : Int → Int → List (Int × Int)} (hs : SmallG nx) {p : Int × Int} (h : ReachG nx p) : p ∈ foundG nx 36 := by
 induction h with
 | start => exact foundG_zero nx 36
 | step _ hq ih => exact foundG_closed hs ih hq
theorem foundG_iff {nx : Int → Int → List (Int × Int)} (hs : SmallG nx) {p : Int × Int} : p ∈ foundG nx 36 ↔ ReachG nx p := ⟨foundG_reach nx 36 p, reach_foundG hs⟩

/-- Where both lead to. -/
def bothG (x : Mac) (s : Int) (b : Bool) (y : Mac) (t : Int) (c : Bool) (k : Int) : Option (Int × Int) :=
 match toOf x.moves s b k, toOf y.moves t c k with
 | some p, some q => some (p, q)
 | _, _ => none
/-- Where the messages lead to that lead somewhere in both. -/
def sharedP (x : Mac) (s : Int) (b : Bool) (y : Mac) (t : Int) (c : Bool) : List (Int × Int) := (movesFrom x s b).filterMap (bothG x s b y t c)
theorem bothG_some {x y : Mac} {s t k : Int} {b c : Bool} {q r : Int} (h1 : toOf x.moves s b k = some q) (h2 : toOf y.moves t c k = some r) : bothG x s b y t c k = some (q, r) := by
 unfold bothG
 rw [h1, h2]
theorem bothG_none {x y : Mac} {s t k : Int} {b c : Bool} (h2 : toOf y.moves t c k = none) : bothG x s b y t c k = none := by
 unfold bothG
 rw [h2]
 cases toOf x.moves s b k <;> rfl
theorem bothG_iff {x y : Mac} {s t k : Int} {b c : Bool} {p : Int × Int} : bothG x s b y t c k = some p ↔ toOf x.moves s b k = some p.1 ∧ toOf y.moves t c k = some p.2 := by
 unfold bothG
 cases toOf x.moves s b k <;> cases toOf y.moves t c k <;> simp [Prod.ext_iff]
theorem sharedP_len (x : Mac) (s : Int) (b : Bool) (y : Mac) (t : Int) (c : Bool) : (sharedP x s b y t c).length ≤ x.moves.length :=
 Nat.le_trans (List.length_filterMap_le _ _) (movesFrom_len _ _ _)
theorem filterMap_same {α β : Type} {f g : α → Option β} : ∀ {l : List α}, (∀ x ∈ l, f x = g x) → l.filterMap f = l.filterMap g
 | [], _ => rfl
 | x :: t, h => by
  rw [List.filterMap_cons, List.filterMap_cons, h x (by simp), filterMap_same (l := t) fun y hy => h y (by simp [hy])]
theorem delivs_shared (x : Mac) (s : Int) (y : Mac) (t : Int) : delivs x s y t = sharedP x s true y t false := by
 unfold delivs sharedP
 refine filterMap_same fun k hk => ?_
 obtain ⟨q, hq⟩ := sent_to hk
 unfold deliv bothG
 rw [hq]
 cases toOf y.moves t false k <;> rfl
theorem toOf_from {x : Mac} {s k t : Int} {b : Bool} (h : toOf x.moves s b k = some t) : k ∈ movesFrom x s b := by
 obtain ⟨m, h1, _, h2⟩ := toOf_mem h
 exact mem_movesFrom.2 ⟨m, h1, h2⟩
theorem movesFrom_asc (x : Mac) (s : Int) (b : Bool) : Asc (movesFrom x s b) := (puts_asc (acc := []) (by simp [Asc])).1
theorem filterMap_filter' {β : Type} {f : Int → Option β} : ∀ l : List Int, l.filterMap f = (l.filter fun k => (f k).isSome).filterMap f
 | [] => rfl
 | x :: t => by
  rw [List.filterMap_cons, List.filter_cons]
  cases e : f x with
  | none => simpa [e] using filterMap_filter' t
  | some y => simpa [e, List.filterMap_cons] using filterMap_filter' t
theorem sharedP_other (x : Mac) (s : Int) (b : Bool) (y : Mac) (t : Int) (c : Bool) : sharedP x s b y t c = (movesFrom y t c).filterMap (bothG x s b y t c) := by
 unfold sharedP
 rw [filterMap_filter' (movesFrom x s b), filterMap_filter' (movesFrom y t c)]
 congr 1
 refine asc_ext ((movesFrom_asc x s b).filter _) ((movesFrom_asc y t c).filter _) fun k => ?_
 rw [List.mem_filter, List.mem_filter]
 have key : (bothG x s b y t c k).isSome = true → k ∈ movesFrom x s b ∧ k ∈ movesFrom y t c := fun h => by
  obtain ⟨p, hp⟩ := Option.isSome_iff_exists.1 h
  obtain ⟨h1, h2⟩ := bothG_iff.1 hp
  exact ⟨toOf_from h1, toOf_from h2⟩
 exact ⟨fun h => ⟨(key h.2).2, h.2⟩, fun h => ⟨(key h.2).1, h.2⟩⟩
theorem sharedP_mem {x y : Mac} {s t : Int} {b c : Bool} {p : Int × Int} : p ∈ sharedP x s b y t c ↔ ∃ k, toOf x.moves s b k = some p.1 ∧ toOf y.moves t c k = some p.2 := by
 unfold sharedP
 rw [List.mem_filterMap]
 constructor
 ·rintro ⟨k, _, h⟩
  exact ⟨k, bothG_iff.1 h⟩
 ·rintro ⟨k, h1, h2⟩
  exact ⟨k, toOf_from h1, bothG_iff.2 ⟨h1, h2⟩⟩
/-- The pairs that follow if both make the same move. -/
def samesP (a b : Mac) (x y : Int) : List (Int × Int) := sharedP a x true b y true ++ sharedP a x false b y false
theorem samesP_len (a b : Mac) (x y : Int) : (samesP a b x y).length ≤ a.moves.length + a.moves.length := by
 have h1 := sharedP_len a x true b y true
 have h2 := sharedP_len a x false b y false
 unfold samesP
 rw [List.length_append]
 omega
theorem samesP_mem {a b : Mac} {x y : Int} {p : Int × Int} : p ∈ samesP a b x y ↔ ∃ (c : Bool) (k : Int), toOf a.moves x c k = some p.1 ∧ toOf b.moves y c k = some p.2 := by
 unfold samesP
 rw [List.mem_append, sharedP_mem, sharedP_mem]
 constructor
 ·rintro (⟨k, h⟩ | ⟨k, h⟩)
  ·exact ⟨true, k, h⟩
  ·exact ⟨false, k, h⟩
 ·rintro ⟨c, k, h⟩
  cases c
  ·exact Or.inr ⟨k, h⟩
  ·exact Or.inl ⟨k, h⟩
theorem small_of {a b : Mac} (ha : isMac a = true) (hb : isMac b = true) {nx : Int → Int → List (Int × Int)} (h : ∀ x y q, q ∈ nx x y → (∃ m ∈ a.moves, m.to = q.1) ∧ ∃ m ∈ b.moves, m.to = q.2) {p : Int × Int} (hp : ReachG nx p) : (0 ≤ p.1 ∧ p.1 < a.st) ∧ 0 ≤ p.2 ∧ p.2 < b.st := by
 have h1 := (isMac_to ha).1
 have h2 := (isMac_to hb).1
 cases hp with
 | start => exact ⟨⟨by simp, by simp; omega⟩, by simp, by simp; omega⟩
 | step _ hq =>
  obtain ⟨⟨m, m1, m2⟩, m', m1', m2'⟩ := h _ _ _ hq
  have e1 := (isMac_to ha).2 m m1
  have e2 := (isMac_to hb).2 m' m1'
  omega
theorem samesP_to {a b : Mac} {x y : Int} {q : Int × Int} (h : q ∈ samesP a b x y) : (∃ m ∈ a.moves, m.to = q.1) ∧ ∃ m ∈ b.moves, m.to = q.2 := by
 obtain ⟨c, k, h1, h2⟩ := samesP_mem.1 h
 obtain ⟨m, m1, m2, _⟩ := toOf_mem h1
 obtain ⟨m', m1', m2', _⟩ := toOf_mem h2
 exact ⟨⟨m, m1, m2⟩, m', m1', m2'⟩
theorem sames_in {a b : Mac} (ha : isMac a = true) (hb : isMac b = true) {p : Int × Int} (hp : ReachG (samesP a b) p) : (0 ≤ p.1 ∧ p.1 < a.st) ∧ 0 ≤ p.2 ∧ p.2 < b.st := small_of ha hb (fun _ _ _ => samesP_to) hp
theorem nexts_in {a b : Mac} (ha : isMac a = true) (hb : isMac b = true) {p : Int × Int} (hp : ReachG (nextP a b) p) : (0 ≤ p.1 ∧ p.1 < a.st) ∧ 0 ≤ p.2 ∧ p.2 < b.st := small_of ha hb (fun _ _ _ => nextP_mem) hp
theorem sames_small {a b : Mac} (ha : isMac a = true) (hb : isMac b = true) : SmallG (samesP a b) := fun p hp => by
 have h1 := (isMac_to ha).1
 have h2 := (isMac_to hb).1
 have := sames_in ha hb hp
 omega
theorem nexts_small {a b : Mac} (ha : isMac a = true) (hb : isMac b = true) : SmallG (nextP a b) := fun p hp => by
 have h1 := (isMac_to ha).1
 have h2 := (isMac_to hb).1
 have := nexts_in ha hb hp
 omega
/-- All pairs that two machines reach by the same moves. -/
def followP (a b : Mac) : List (Int × Int) := if (isMac a && isMac b) = true then foundG (samesP a b) 36 else []
theorem followP_len (a b : Mac) : (followP a b).length ≤ 36 := by
 unfold followP
 split
 ·rename_i h
  rw [Bool.and_eq_true] at h
  exact foundG_len (sames_small h.1 h.2) 36
 ·simp
theorem followP_yes {a b : Mac} (ha : isMac a = true) (hb : isMac b = true) : followP a b = foundG (samesP a b) 36 := by
 unfold followP
 rw [if_pos (by rw [ha, hb]; rfl)]
theorem followP_no {a b : Mac} (h : (isMac a && isMac b) = false) : followP a b = [] := by
 unfold followP
 rw [h]
 rfl
/-- The numbers of the one list are among the other's, and none only where there are none. -/
def someOf (l all : List Int) : Bool := l.all (fun k => decide (k ∈ all)) && (l.isEmpty == all.isEmpty)
def endP (a : Mac) (x : Int) : Bool := decide (x < a.st) && stopP a x
def followsAtP (a b : Mac) (x y : Int) : Bool := someOf (movesFrom a x true) (movesFrom b y true) && (someOf (movesFrom b y false) (movesFrom a x false) && (endP a x || !endP b y))
def followsP (a b : Mac) : Bool := isMac a && (isMac b && (followP a b).all fun p => followsAtP a b p.1 p.2)
def chainFrom (x : Mac) : List Mac → Bool
 | [] => true
 | y :: t => followsP y x && chainFrom y t
def chainP : List Mac → Bool
 | [] => false
 | x :: t => isMac x && chainFrom x t
theorem followsP_iff {a b : Mac} : followsP a b = true ↔ isMac a = true ∧ isMac b = true ∧ ∀ p, ReachG (samesP a b) p → followsAtP a b p.1 p.2 = true := by
 unfold followsP
 rw [Bool.and_eq_true, Bool.and_eq_true, List.all_eq_true]
 constructor
 ·rintro ⟨h1, h2, h3⟩
  refine ⟨h1, h2, fun p hp => h3 p ?_⟩
  rw [followP_yes h1 h2]
  exact reach_foundG (sames_small h1 h2) hp
 ·rintro ⟨h1, h2, h3⟩
  refine ⟨h1, h2, fun p hp => h3 p ?_⟩
  rw [followP_yes h1 h2] at hp
  exact foundG_reach _ 36 p hp
theorem isMac_ends {a : Mac} (h : isMac a = true) : (a.ends.length : Int) = a.st := by
 unfold isMac at h
 simp only [Bool.and_eq_true, inB, decide_eq_true_eq, List.all_eq_true] at h
 exact h.2.1
theorem endP_stop {a : Mac} (h : isMac a = true) (x : Int) : endP a x = stopP a x := by
 unfold endP stopP
 rw [isMac_ends h]
 by_cases hx : x < a.st
 ·simp [hx]
 ·have : inB x 0 (a.st - 1) = false := by simp [inB]; omega
  rw [this]
  simp
end Go.Proofs.Ytckmgbobkffabaa
