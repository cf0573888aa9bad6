/- Whether a machine is valid: by the program. Pairs of states of two machines: which ones follow, which are reached, what is wrong in them. No function of the program is spoken of. -/
import Derived.Test.YtckmgbobkffabaaG13
import Derived.Test.YtckmgbobkffabaaG1
namespace Go.Proofs.Ytckmgbobkffabaa
open Go.ChangeShapes Go.WideShapes Go.ChangeAt Go.RowKit
set_option linter.unusedVariables false
set_option linter.unusedSimpArgs false

/-- A number lies in a range. -/
def inB (n l h : Int) : Bool := decide (l ≤ n) && decide (n ≤ h)
/-- A move lies within a machine of st states. -/
def okM (st : Int) (x : Mv) : Bool := inB x.frm 0 (st - 1) && (inB x.to 0 (st - 1) && inB x.msg 0 5)
/-- Whether a move leaves the state of m in the other direction. -/
def turnM (m x : Mv) : Bool := x.frm == m.frm && x.send != m.send
def hasOther (l : List Mv) (m : Mv) : Bool := l.any (turnM m)
def Distinct (l : List Mv) : Prop := l.Pairwise (fun x y => sameKey x y = false)
instance (l : List Mv) : Decidable (Distinct l) := by unfold Distinct; infer_instance
def goodM (x : Mac) (m : Mv) : Bool := okM x.st m && !hasOther x.moves m
/-- Whether a machine is valid. -/
def isMac (x : Mac) : Bool := inB x.st 1 6 && (decide ((x.ends.length : Int) = x.st) && (decide (x.moves.length ≤ 12) && (x.moves.all (goodM x) && decide (Distinct x.moves))))
theorem okM_wf {st : Int} {x : Mv} (hs : st ≤ 6) (h : okM st x = true) : (Lit.int .i64 x.frm).wf = true ∧ (Lit.int .i64 x.msg).wf = true := by
 simp only [okM, inB, Bool.and_eq_true, decide_eq_true_eq] at h
 exact ⟨WalkArith.wf_i64 (by omega), WalkArith.wf_i64 (by omega)⟩

theorem inRange_told (n l h : Int) (w : World) :
  Calls Try.prog 51 #[.int .i64 n, .int .i64 l, .int .i64 h] w (Told (.bool (decide (l ≤ n) && decide (n ≤ h))) w) := by
 by_cases h1 : l ≤ n <;> by_cases h2 : n ≤ h <;> (go_enter Try.func51, Try.ntmps51; go_wp2; go_ret; exact ⟨by simp [h1, h2], Below.refl _ _⟩)

set_option maxRecDepth 100000 in
theorem isMoveWithin_any (x : Mv) (st : Int) (h1 : 1 ≤ st) (h6 : st ≤ 6) (w : World) : Calls Try.prog 52 #[x.val, .int .i64 st] w (Told (.bool (okM st x)) w) := by
 unfold Mv.val
 have HB := Lib.hid (alloc_same w (.cells #[.int .i64 x.frm, .bool x.send, .int .i64 x.msg, .int .i64 x.to] 63))
 have C := Lib.hid (four_at (heap_alloc_new w (.cells #[.int .i64 x.frm, .bool x.send, .int .i64 x.msg, .int .i64 x.to] 63 (0, 0))))
 cases q1 : inB x.frm 0 (st - 1) with
 | false =>
  have HR : Hid (okM st x = false) := Lib.hid (by simp [okM, q1])
  have HI := Lib.hid (inRange_told x.frm 0 (st - 1))
  unfold inB at q1
  rw [q1] at HI
  clear q1
  go_enter Try.func52, Try.ntmps52
  go_wp2_with fail
  generalize (w.alloc (.cells #[.int .i64 x.frm, .bool x.send, .int .i64 x.msg, .int .i64 x.to] 63)) = W0 at *
  refine (HI.out _).mono ?_
  rintro e w1 ⟨rfl, hb⟩
  have HB1 := Lib.hid (HB.out.trans (hb.mono HB.out.size))
  clear hb
  go_wp2_with fail
  go_ret
  exact ⟨by rw [HR.out]; try rfl, HB1.out⟩
 | true =>
  cases q2 : inB x.to 0 (st - 1) with
  | false =>
   have HR : Hid (okM st x = false) := Lib.hid (by simp [okM, q2])
   have HI := Lib.hid (inRange_told x.frm 0 (st - 1))
   have HJ := Lib.hid (inRange_told x.to 0 (st - 1))
   unfold inB at q1 q2
   rw [q1] at HI
   rw [q2] at HJ
   clear q1 q2
   go_enter Try.func52, Try.ntmps52
   go_wp2_with fail
   generalize (w.alloc (.cells #[.int .i64 x.frm, .bool x.send, .int .i64 x.msg, .int .i64 x.to] 63)) = W0 at *
   refine (HI.out _).mono ?_
   rintro e w1 ⟨rfl, hb⟩
   have HD1 := Lib.hid hb
   have HB1 := Lib.hid (HB.out.trans (hb.mono HB.out.size))
   have c3 := cell_stay C.out.2.2.2 hb
   clear hb
   go_wp2_with fail
   clear c3
   refine (HJ.out _).mono ?_
   rintro e w2 ⟨rfl, hb⟩
   have HD2 : Hid (Below W0.heap.size W0 w2) := Lib.hid (HD1.out.trans (hb.mono HD1.out.size))
   have HB2 := Lib.hid (HB1.out.trans (hb.mono HB1.out.size))
   clear hb
   go_wp2_with fail
   go_ret
   exact ⟨by rw [HR.out]; try rfl, HB2.out⟩
  | true =>
   have HR : Hid (okM st x = inB x.msg 0 5) := Lib.hid (by simp [okM, q1, q2])
   have HI := Lib.hid (inRange_told x.frm 0 (st - 1))
   have HJ := Lib.hid (inRange_told x.to 0 (st - 1))
   have HK := Lib.hid (inRange_told x.msg 0 5)
   unfold inB at q1 q2
   rw [q1] at HI
   rw [q2] at HJ
   clear q1 q2
   go_enter Try.func52, Try.ntmps52
   go_wp2_with fail
   generalize (w.alloc (.cells #[.int .i64 x.frm, .bool x.send, .int .i64 x.msg, .int .i64 x.to] 63)) = W0 at *
   refine (HI.out _).mono ?_
   rintro e w1 ⟨rfl, hb⟩
   have HD1 := Lib.hid hb
   have HB1 := Lib.hid (HB.out.trans (hb.mono HB.out.size))
   have c3 := cell_stay C.out.2.2.2 hb
   clear hb
   go_wp2_with fail
   clear c3
   refine (HJ.out _).mono ?_
   rintro e w2 ⟨rfl, hb⟩
   have HD2 : Hid (Below W0.heap.size W0 w2) := Lib.hid (HD1.out.trans (hb.mono HD1.out.size))
   have HB2 := Lib.hid (HB1.out.trans (hb.mono HB1.out.size))
   clear hb
   have C2 := Lib.hid (And.intro (cell_stay C.out.1 HD2.out) (And.intro (cell_stay C.out.2.1 HD2.out) (And.intro (cell_stay C.out.2.2.1 HD2.out) (cell_stay C.out.2.2.2 HD2.out))))
   have c2 := C2.out.2.2.1
   go_wp2_with fail
   refine (HK.out _).mono ?_
   rintro e w3 ⟨rfl, hb⟩
   have HB3 := Lib.hid (HB2.out.trans (hb.mono HB2.out.size))
   clear hb c2
   go_wp2_with fail
   go_ret
   exact ⟨by rw [HR.out]; rfl, HB3.out⟩

set_option maxRecDepth 100000 in
theorem turn1_any (x m : Mv) (g : Nat) (w : World) (hg : w.cell? ⟨g, 0, none⟩ = some (.int .i64 m.frm) ∧ w.cell? ⟨g, 1, none⟩ = some (.bool m.send)) :
  Calls Try.prog 88 #[x.val, .pointer (some ⟨g, 0, none⟩)] w (Told (.bool (turnM m x)) w) := by
 have HB := Lib.hid (alloc_same w (.cells #[.int .i64 x.frm, .bool x.send, .int .i64 x.msg, .int .i64 x.to] 63))
 have d0 := cell_stay hg.1 HB.out
 have d1 := cell_stay hg.2 HB.out
 clear hg
 unfold Mv.val
 by_cases h1 : x.frm = m.frm
 ·have e1 : (x.frm == m.frm) = true := by simpa using h1
  have HR : Hid (turnM m x = (x.send != m.send)) := Lib.hid (by simp [turnM, h1])
  clear h1
  cases q : (x.send == m.send) with
  | true =>
   rw [show (x.send != m.send) = false by simp [bne, q]] at HR
   go_enter Try.func88, Try.ntmps88
   go_wp2_with fail
   go_ret
   exact ⟨by rw [HR.out]; try rfl, HB.out⟩
  | false =>
   rw [show (x.send != m.send) = true by simp [bne, q]] at HR
   go_enter Try.func88, Try.ntmps88
   go_wp2_with fail
   go_ret
   exact ⟨by rw [HR.out]; try rfl, HB.out⟩
 ·have e1 : (x.frm == m.frm) = false := by simpa using h1
  have HR : Hid (turnM m x = false) := Lib.hid (by simp [turnM, e1])
  clear h1
  go_enter Try.func88, Try.ntmps88
  go_wp2_with fail
  go_ret
  exact ⟨by rw [HR.out]; try rfl, HB.out⟩

theorem firstAt_any {α : Type} (p : α → Bool) (l : List α) : decide (0 ≤ firstAt p l) = l.any p := by
 rcases firstAt_cases p l with ⟨e, h⟩ | ⟨j, x, e, hx, hp, _⟩
 ·rw [e, h]; rfl
 ·rw [e, decide_eq_true (by omega)]
  exact (List.any_eq_true.2 ⟨x, List.mem_of_getElem? hx, hp⟩).symm
set_option maxRecDepth 100000 in
theorem hasOtherTurn_any (m : Mv) {a : Option Addr} {n c : Nat} {l : List Mv} {w : World} (h : Mvs w a n l) : Calls Try.prog 53 #[.slice a n c, m.val] w (Told (.bool (hasOther l m)) w) := by
 have HB := Lib.hid (alloc_same w (.cells #[.int .i64 m.frm, .bool m.send, .int .i64 m.msg, .int .i64 m.to] 63))
 have C := Lib.hid (four_at (heap_alloc_new w (.cells #[.int .i64 m.frm, .bool m.send, .int .i64 m.msg, .int .i64 m.to] 63 (0, 0))))
 have H := Lib.hid (h.same HB.out)
 clear h
 unfold Mv.val
 have HC : ∀ W0 : World, Mvs W0 a n l → W0.cell? ⟨w.heap.size, 0, none⟩ = some (.int .i64 m.frm) → W0.cell? ⟨w.heap.size, 1, none⟩ = some (.bool m.send) →
   Calls Try.prog 87 #[.slice a n c, .func (.func 88) #[] #[.pointer (some ⟨w.heap.size, 0, none⟩)]] W0 (Told (.bool (hasOther l m)) W0) := by
  intro W0 h2 k0 k1
  have HI := Lib.hid (indexTurn_any (ptr := .pointer (some ⟨w.heap.size, 0, none⟩)) (p := turnM m) (c := c) h2 (fun y w' hb => turn1_any y m w.heap.size w' ⟨cell_stay k0 hb, cell_stay k1 hb⟩))
  clear h2 k0 k1 H C HB
  go_enter Try.func87, Try.ntmps87
  go_wp2_with fail
  refine HI.out.mono ?_
  rintro e w1 ⟨rfl, hb⟩
  have HB1 := Lib.hid hb
  clear hb
  go_wp2_with fail
  go_ret
  refine ⟨?_, HB1.out⟩
  have e9 : hasOther l m = decide (0 ≤ firstAt (turnM m) l) := (firstAt_any _ _).symm
  rw [e9]
  try rfl
 have HC2 := Lib.hid HC
 clear HC
 go_enter Try.func53, Try.ntmps53
 go_wp2_with fail
 generalize (w.alloc (.cells #[.int .i64 m.frm, .bool m.send, .int .i64 m.msg, .int .i64 m.to] 63)) = W0 at *
 refine (HC2.out W0 H.out C.out.1 C.out.2.1).mono ?_
 rintro e w1 ⟨rfl, hb⟩
 have HB1 := Lib.hid (HB.out.trans (hb.mono HB.out.size))
 clear hb
 go_wp2_with fail
 go_ret
 exact ⟨rfl, HB1.out⟩
end Go.Proofs.Ytckmgbobkffabaa
namespace Go.Proofs.Ytckmgbobkffabaa
open Go.ChangeShapes Go.WideShapes Go.ChangeAt Go.RowKit
set_option linter.unusedVariables false

/-- Where the first move with this From, Send and Msg leads to. -/
def toOf (l : List Mv) (s : Int) (b : Bool) (k : Int) : Option Int := (l.find? (hitM s b k)).map Mv.to
/-- The moves' numbers and ends are integers of 64 bits. -/
def Wmv (x : Mv) : Prop := (Lit.int .i64 x.msg).wf = true ∧ (Lit.int .i64 x.to).wf = true
theorem toOf_mem {l : List Mv} {s : Int} {b : Bool} {k t : Int} (h : toOf l s b k = some t) : ∃ m ∈ l, m.to = t ∧ hitM s b k m = true := by
 unfold toOf at h
 rw [Option.map_eq_some_iff] at h
 obtain ⟨m, h1, h2⟩ := h
 exact ⟨m, List.mem_of_find?_eq_some h1, h2, List.find?_some h1⟩
theorem toOf_none {l : List Mv} {s : Int} {b : Bool} {k : Int} (h : toOf l s b k = none) : l.any (hitM s b k) = false := by
 unfold toOf at h
 rw [Option.map_eq_none_iff, List.find?_eq_none] at h
 rw [List.any_eq_false]
 intro x hx
 exact h x hx
theorem toOf_first {l : List Mv} {s : Int} {b : Bool} {k : Int} {j : Nat} {x : Mv} (hx : l[j]? = some x) (hp : hitM s b k x = true) (hn : (l.take j).any (hitM s b k) = false) : toOf l s b k = some x.to := by
 unfold toOf
 have hj := at_lt hx
 have : l.find? (hitM s b k) = some x := by
  rw [List.find?_eq_some_iff_getElem]
  rw [List.getElem?_eq_getElem hj] at hx
  refine ⟨hp, j, hj, Option.some.inj hx, fun i hi => ?_⟩
  rw [List.any_eq_false] at hn
  have := hn _ (List.mem_iff_getElem?.2 ⟨i, by rw [List.getElem?_take, if_pos hi, List.getElem?_eq_getElem (by omega)]⟩)
  simpa using this
 rw [this]
 rfl
theorem mem_movesFrom {x : Mac} {s : Int} {b : Bool} {k : Int} : k ∈ movesFrom x s b ↔ ∃ m ∈ x.moves, hitM s b k m = true := by
 unfold movesFrom
 rw [(puts_asc (acc := []) (by simp [Asc])).2 k]
 unfold msgsOf
 constructor
 ·rintro (h | h)
  ·simp at h
  ·obtain ⟨m, h1, h2⟩ := List.mem_map.1 h
   obtain ⟨h3, h4⟩ := List.mem_filter.1 h1
   refine ⟨m, h3, ?_⟩
   simp only [fromM, Bool.and_eq_true, beq_iff_eq] at h4
   exact hitM_iff.2 ⟨h4.1, h4.2, h2⟩
 ·rintro ⟨m, h1, h2⟩
  obtain ⟨e1, e2, e3⟩ := hitM_iff.1 h2
  exact Or.inr (List.mem_map.2 ⟨m, List.mem_filter.2 ⟨h1, by simp [fromM, e1, e2]⟩, e3⟩)
theorem sent_to {x : Mac} {s : Int} {b : Bool} {k : Int} (h : k ∈ movesFrom x s b) : ∃ t, toOf x.moves s b k = some t := by
 obtain ⟨m, h1, h2⟩ := mem_movesFrom.1 h
 cases e : toOf x.moves s b k with
 | some t => exact ⟨t, rfl⟩
 | none =>
  have := toOf_none e
  rw [List.any_eq_false] at this
  exact absurd h2 (by simpa using this m h1)
/-- One delivery: the states that follow. -/
def deliv (x : Mac) (s : Int) (y : Mac) (t : Int) (k : Int) : Option (Int × Int) := (toOf y.moves t false k).map fun r => ((toOf x.moves s true k).getD 0, r)
/-- All deliveries of messages that the first machine sends. -/
def delivs (x : Mac) (s : Int) (y : Mac) (t : Int) : List (Int × Int) := (movesFrom x s true).filterMap (deliv x s y t)
theorem delivs_len (x : Mac) (s : Int) (y : Mac) (t : Int) : (delivs x s y t).length ≤ x.moves.length :=
 Nat.le_trans (List.length_filterMap_le _ _) (movesFrom_len _ _ _)
def nextP (a b : Mac) (x y : Int) : List (Int × Int) := delivs a x b y ++ (delivs b y a x).map Prod.swap
theorem nextP_len (a b : Mac) (x y : Int) : (nextP a b x y).length ≤ a.moves.length + b.moves.length := by
 have h1 := delivs_len a x b y
 have h2 := delivs_len b y a x
 unfold nextP
 rw [List.length_append, List.length_map]
 omega
def unreadP (a b : Mac) (x y : Int) : Bool := (movesFrom a x true).any fun k => (toOf b.moves y false k).isNone
def stopP (a : Mac) (x : Int) : Bool := inB x 0 ((a.ends.length : Int) - 1) && a.ends.getD x.toNat false
/-- What is wrong in a pair of states. -/
def troubleP (a b : Mac) (x y : Int) : Int :=
 if (unreadP a b x y || unreadP b a y x) = true then 1 else if ((nextP a b x y).isEmpty && !(stopP a x && stopP b y)) = true then 2 else 0
/-- New ones are put behind those that are there. -/
def grow1 (o : List (Int × Int)) (p : Int × Int) : List (Int × Int) := if p ∈ o then o else o ++ [p]
def growP (o l : List (Int × Int)) : List (Int × Int) := l.foldl grow1 o
/-- What is found once the first i pairs were looked at. -/
def found (a b : Mac) : Nat → List (Int × Int)
 | 0 => [(0, 0)]
 | i + 1 => match (found a b i)[i]? with
  | some p => growP (found a b i) (nextP a b p.1 p.2)
  | none => found a b i
def pairsP (a b : Mac) : List (Int × Int) := if (isMac a && isMac b) = true then found a b 36 else []
def firstP (a b : Mac) : Option (Int × Int) := (pairsP a b).find? fun p => troubleP a b p.1 p.2 != 0
def rowOf (p : Option (Int × Int)) : List Int := match p with | some p => [p.1, p.2] | none => []
def safeP (a b : Mac) : Bool := isMac a && (isMac b && (firstP a b).isNone)

theorem grow1_len (o : List (Int × Int)) (p : Int × Int) : o.length ≤ (grow1 o p).length ∧ (grow1 o p).length ≤ o.length + 1 := by
 unfold grow1
 split <;> simp
theorem growP_step {o l : List (Int × Int)} {j : Nat} {p : Int × Int} (h : l[j]? = some p) : growP o (l.take (j + 1)) = grow1 (growP o (l.take j)) p := by
 unfold growP
 rw [List.take_add_one, h, List.foldl_append]
 rfl
theorem growP_mem {l : List (Int × Int)} : ∀ {o : List (Int × Int)} {q : Int × Int}, q ∈ growP o l ↔ q ∈ o ∨ q ∈ l := by
 induction l with
 | nil => intro o q; simp [growP]
 | cons x t ih =>
  intro o q
  show q ∈ growP (grow1 o x) t ↔ _
  rw [ih]
  unfold grow1
  split
  ·rename_i hx
   constructor
   ·rintro (h | h)
    ·exact Or.inl h
    ·exact Or.inr (by simp [h])
   ·rintro (h | h)
    ·exact Or.inl h
    ·rcases List.mem_cons.1 h with h | h
     ·rw [h]; exact Or.inl hx
     ·exact Or.inr h
  ·simp [or_assoc]
theorem growP_nodup {l : List (Int × Int)} : ∀ {o : List (Int × Int)}, o.Nodup → (growP o l).Nodup := by
 induction l with
 | nil => intro o h; exact h
 | cons x t ih =>
  intro o h
  show (growP (grow1 o x) t).Nodup
  refine ih ?_
  unfold grow1
  split
  ·exact h
  ·rename_i hx
   rw [List.nodup_append]
   exact ⟨h, by simp, fun a ha b hb e => by
    have : b = x := by simpa using hb
    subst this
    subst e
    exact hx ha⟩
theorem growP_pre {l : List (Int × Int)} : ∀ {o : List (Int × Int)}, ∃ r, growP o l = o ++ r := by
 induction l with
 | nil => intro o; exact ⟨[], by simp [growP]⟩
 | cons x t ih =>
  intro o
  obtain ⟨r, e⟩ := @ih (grow1 o x)
  show ∃ r, growP (grow1 o x) t = _
  rw [e]
  unfold grow1
  split
  ·exact ⟨r, rfl⟩
  ·exact ⟨[x] ++ r, by simp⟩
theorem nodup_le {α : Type} [DecidableEq α] : ∀ {l m : List α}, l.Nodup → (∀ x ∈ l, x ∈ m) → l.length ≤ m.length
 | [], m, _, _ => by simp
 | x :: t, m, h, hm => by
  have hx := hm x (by simp)
  obtain ⟨h1, h2⟩ := List.nodup_cons.1 h
  have ih := nodup_le (l := t) (m := m.erase x) h2 fun y hy => by
   rw [List.mem_erase_of_ne (fun e => h1 (by rw [← e]; exact hy))]
   exact hm y (by simp [hy])
  rw [List.length_erase_of_mem hx] at ih
  have : 0 < m.length := List.length_pos_of_mem hx
  simp only [List.length_cons]
  omega
theorem nextP_mem {a b : Mac} {x y : Int} {q : Int × Int} (h : q ∈ nextP a b x y) : (∃ m ∈ a.moves, m.to = q.1) ∧ ∃ m ∈ b.moves, m.to = q.2 := by
 have key : ∀ (a b : Mac) (x y : Int) (q : Int × Int), q ∈ delivs a x b y → (∃ m ∈ a.moves, m.to = q.1) ∧ ∃ m ∈ b.moves, m.to = q.2 := by
  intro a b x y q h
  obtain ⟨k, hk, h2⟩ := List.mem_filterMap.1 h
  unfold deliv at h2
  rw [Option.map_eq_some_iff] at h2
  obtain ⟨r, hr, e⟩ := h2
  obtain ⟨t, ht⟩ := sent_to hk
  rw [ht] at e
  subst e
  obtain ⟨m, m1, m2, _⟩ := toOf_mem ht
  obtain ⟨m', m1', m2', _⟩ := toOf_mem hr
  exact ⟨⟨m, m1, m2⟩, m', m1', m2'⟩
 rcases List.mem_append.1 h with h | h
 ·exact key a b x y q h
 ·obtain ⟨p, hp, e⟩ := List.mem_map.1 h
  subst e
  obtain ⟨h1, h2⟩ := key b a y x p hp
  exact ⟨h2, h1⟩
theorem isMac_to {a : Mac} (h : isMac a = true) : (1 ≤ a.st ∧ a.st ≤ 6) ∧ ∀ m ∈ a.moves, 0 ≤ m.to ∧ m.to < a.st := by
 unfold isMac at h
 simp only [Bool.and_eq_true, inB, decide_eq_true_eq, List.all_eq_true] at h
 obtain ⟨h1, h2, h3, h4, h5⟩ := h
 refine ⟨h1, fun m hm => ?_⟩
 have h6 := h4 m hm
 unfold goodM okM at h6
 simp only [Bool.and_eq_true, inB, decide_eq_true_eq] at h6
 omega
theorem isMac_len {a : Mac} (h : isMac a = true) : a.moves.length ≤ 12 := by
 unfold isMac at h
 simp only [Bool.and_eq_true, inB, decide_eq_true_eq, List.all_eq_true] at h
 exact h.2.2.1
theorem found_nodup (a b : Mac) : ∀ i, (found a b i).Nodup
 | 0 => by simp [found]
 | i + 1 => by
  unfold found
  split
  ·exact growP_nodup (found_nodup a b i)
  ·exact found_nodup a b i
theorem found_in {a b : Mac} (ha : isMac a = true) (hb : isMac b = true) : ∀ i, ∀ p ∈ found a b i, (0 ≤ p.1 ∧ p.1 < a.st) ∧ 0 ≤ p.2 ∧ p.2 < b.st
 | 0, p, hp => by
  have : p = (0, 0) := by simpa [found] using hp
  subst this
  have := (isMac_to ha).1
  have := (isMac_to hb).1
  omega
 | i + 1, p, hp => by
  unfold found at hp
  split at hp
  ·rename_i q hq
   rcases growP_mem.1 hp with h | h
   ·exact found_in ha hb i p h
   ·obtain ⟨⟨m, m1, m2⟩, m', m1', m2'⟩ := nextP_mem h
    have e1 := (isMac_to ha).2 m m1
    have e2 := (isMac_to hb).2 m' m1'
    omega
  ·exact found_in ha hb i p hp
/-- All pairs of states that there may be. -/
def allP : List (Int × Int) := (List.range 36).map fun k => (((k / 6 : Nat) : Int), ((k % 6 : Nat) : Int))
theorem mem_allP {p : Int × Int} (h1 : 0 ≤ p.1 ∧ p.1 < 6) (h2 : 0 ≤ p.2 ∧ p.2 < 6) : p ∈ allP := by
 unfold allP
 refine List.mem_map.2 ⟨p.1.toNat * 6 + p.2.toNat, List.mem_range.2 (by omega), ?_⟩
 apply Prod.ext
 ·show (((p.1.toNat * 6 + p.2.toNat) / 6 : Nat) : Int) = p.1
  omega
 ·show (((p.1.toNat * 6 + p.2.toNat) % 6 : Nat) : Int) = p.2
  omega
theorem found_len {a b : Mac} (ha : isMac a = true) (hb : isMac b = true) (i : Nat) : (found a b i).length ≤ 36 := by
 have h := nodup_le (m := allP) (found_nodup a b i) fun p hp => by
  have h1 := found_in ha hb i p hp
  have h2 := (isMac_to ha).1
  have h3 := (isMac_to hb).1
  exact mem_allP (by omega) (by omega)
 simpa [allP] using h
theorem found_stay {a b : Mac} {i : Nat} (h : (found a b i).length ≤ i) : ∀ k, found a b (i + k) = found a b i
 | 0 => rfl
 | k + 1 => by
  have ih := found_stay h k
  show (match (found a b (i + k))[i + k]? with
   | some p => growP (found a b (i + k)) (nextP a b p.1 p.2)
   | none => found a b (i + k)) = _
  rw [ih, List.getElem?_eq_none (by omega)]
theorem found_end {a b : Mac} (ha : isMac a = true) (hb : isMac b = true) {i : Nat} (hi : i ≤ 36) (h : (found a b i).length ≤ i) : found a b i = pairsP a b := by
 unfold pairsP
 rw [if_pos (by rw [ha, hb]; rfl), show (36 : Nat) = i + (36 - i) by omega, found_stay h]
theorem found_step {a b : Mac} {i : Nat} {p : Int × Int} (h : (found a b i)[i]? = some p) : found a b (i + 1) = growP (found a b i) (nextP a b p.1 p.2) := by
 show (match (found a b i)[i]? with
  | some p => growP (found a b i) (nextP a b p.1 p.2)
  | none => found a b i) = _
 rw [h]
theorem pairsP_len (a b : Mac) : (pairsP a b).length ≤ 36 := by
 unfold pairsP
 split
 ·rename_i h
  rw [Bool.and_eq_true] at h
  exact found_len h.1 h.2 36
 ·simp
theorem growP_len_le {l : List (Int × Int)} : ∀ {o : List (Int × Int)}, (growP o l).length ≤ o.length + l.length := by
 induction l with
 | nil => intro o; simp [growP]
 | cons x t ih =>
  intro o
  show (growP (grow1 o x) t).length ≤ _
  have := @ih (grow1 o x)
  have := (grow1_len o x).2
  simp only [List.length_cons]
  omega
end Go.Proofs.Ytckmgbobkffabaa
