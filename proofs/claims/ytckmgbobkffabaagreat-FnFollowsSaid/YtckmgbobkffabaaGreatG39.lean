/- Pairs of states: their order does not matter; a machine and its dual. No function of the program is spoken of. Successors: each valid machine follows itself, following is handed on along a chain, and whoever is safe with the older machine is safe with the newer one. No function of the program is spoken of. -/
import Derived.Test.YtckmgbobkffabaaGreatG18
import Derived.Test.YtckmgbobkffabaaGreatG22
import Derived.Test.YtckmgbobkffabaaGreatG1
namespace Go.Proofs.YtckmgbobkffabaaGreat
open Go.ChangeShapes Go.WideShapes Go.ChangeAt Go.RowKit
set_option linter.unusedVariables false

theorem swap_mem {l : List (Int × Int)} {q : Int × Int} : q.swap ∈ l.map Prod.swap ↔ q ∈ l := by
 rw [List.mem_map]
 constructor
 ·rintro ⟨p, hp, e⟩
  have : p = q := by
   have := congrArg Prod.swap e
   simpa using this
  rwa [← this]
 ·exact fun h => ⟨q, h, rfl⟩
theorem nextP_swap {a b : Mac} {x y : Int} {q : Int × Int} : q ∈ nextP a b x y ↔ q.swap ∈ nextP b a y x := by
 unfold nextP
 rw [List.mem_append, List.mem_append, swap_mem]
 have h := swap_mem (l := delivs b y a x) (q := q.swap)
 rw [Prod.swap_swap] at h
 rw [h]
 exact or_comm
/-- A pair of states that is reached. -/
inductive Reach (a b : Mac) : Int × Int → Prop
 | start : Reach a b (0, 0)
 | step {p q : Int × Int} : Reach a b p → q ∈ nextP a b p.1 p.2 → Reach a b q
theorem Reach.turn {a b : Mac} {p : Int × Int} (h : Reach a b p) : Reach b a p.swap := by
 induction h with
 | start => exact Reach.start
 | step _ hq ih => exact Reach.step ih (nextP_swap.1 hq)
theorem found_reach (a b : Mac) : ∀ i, ∀ p ∈ found a b i, Reach a b p
 | 0, p, hp => by
  have : p = (0, 0) := by simpa [found] using hp
  subst this
  exact Reach.start
 | i + 1, p, hp => by
  cases e : (found a b i)[i]? with
  | none =>
   have hf : found a b (i + 1) = found a b i := by
    show (match (found a b i)[i]? with
     | some p => growP (found a b i) (nextP a b p.1 p.2)
     | none => found a b i) = _
    rw [e]
   rw [hf] at hp
   exact found_reach a b i p hp
  | some r =>
   rw [found_step e] at hp
   rcases growP_mem.1 hp with h | h
   ·exact found_reach a b i p h
   ·exact Reach.step (found_reach a b i r (List.mem_of_getElem? e)) h
theorem found_pre1 (a b : Mac) (i : Nat) : ∃ r, found a b (i + 1) = found a b i ++ r := by
 cases e : (found a b i)[i]? with
 | none =>
  refine ⟨[], ?_⟩
  show (match (found a b i)[i]? with
   | some p => growP (found a b i) (nextP a b p.1 p.2)
   | none => found a b i) = _
  rw [e, List.append_nil]
 | some r =>
  rw [found_step e]
  exact growP_pre
theorem found_pre (a b : Mac) (i : Nat) : ∀ k, ∃ r, found a b (i + k) = found a b i ++ r
 | 0 => ⟨[], by simp⟩
 | k + 1 => by
  obtain ⟨r, e⟩ := found_pre a b i k
  obtain ⟨s, e2⟩ := found_pre1 a b (i + k)
  exact ⟨r ++ s, by rw [show i + (k + 1) = i + k + 1 by omega, e2, e, List.append_assoc]⟩
theorem found_zero (a b : Mac) (i : Nat) : (0, 0) ∈ found a b i := by
 obtain ⟨r, e⟩ := found_pre a b 0 i
 rw [Nat.zero_add] at e
 rw [e]
 exact List.mem_append_left _ (by simp [found])
theorem found_closed {a b : Mac} (ha : isMac a = true) (hb : isMac b = true) {p q : Int × Int} (hp : p ∈ found a b 36) (hq : q ∈ nextP a b p.1 p.2) : q ∈ found a b 36 := by
 obtain ⟨j, hj⟩ := List.mem_iff_getElem?.1 hp
 have hL := found_len ha hb 36
 have hjl := at_lt hj
 have hjl2 : j < (found a b j).length := by
  rcases Nat.lt_or_ge j (found a b j).length with h | h
  ·exact h
  ·have := found_stay h (36 - j)
   rw [show j + (36 - j) = 36 by omega] at this
   rw [this] at hjl
   omega
 obtain ⟨r, e⟩ := found_pre a b j (36 - j)
 rw [show j + (36 - j) = 36 by omega] at e
 have hj2 : (found a b j)[j]? = some p := by
  rw [e, List.getElem?_append_left hjl2] at hj
  exact hj
 have h1 : q ∈ found a b (j + 1) := by
  rw [found_step hj2]
  exact growP_mem.2 (Or.inr hq)
 obtain ⟨s, e2⟩ := found_pre a b (j + 1) (36 - (j + 1))
 rw [show j + 1 + (36 - (j + 1)) = 36 by omega] at e2
 rw [e2]
 exact List.mem_append_left _ h1
theorem reach_found {a b : Mac} (ha : isMac a = true) (hb : isMac b = true) {p : Int × Int} (h : Reach a b p) : p ∈ found a b 36 := by
 induction h with
 | start => exact found_zero a b 36
 | step _ hq ih => exact found_closed ha hb ih hq
theorem pairsP_mem {a b : Mac} (ha : isMac a = true) (hb : isMac b = true) {p : Int × Int} : p ∈ pairsP a b ↔ Reach a b p := by
 unfold pairsP
 rw [if_pos (by rw [ha, hb]; rfl)]
 exact ⟨found_reach a b 36 p, reach_found ha hb⟩
theorem pairsP_nodup (a b : Mac) : (pairsP a b).Nodup := by
 unfold pairsP
 split
 ·exact found_nodup a b 36
 ·simp
theorem pairsP_none {a b : Mac} (h : isMac a = false ∨ isMac b = false) : pairsP a b = [] := by
 unfold pairsP
 rw [if_neg (by rcases h with h | h <;> simp [h])]
theorem nodup_swap {l : List (Int × Int)} (h : l.Nodup) : (l.map Prod.swap).Nodup := by
 rw [List.Nodup, List.pairwise_map]
 exact h.imp fun hne e => hne (by have := congrArg Prod.swap e; simpa using this)
theorem pairsP_le (a b : Mac) : (pairsP a b).length ≤ (pairsP b a).length := by
 cases ha : isMac a with
 | false => rw [pairsP_none (Or.inl ha)]; simp
 | true =>
  cases hb : isMac b with
  | false => rw [pairsP_none (Or.inr hb)]; simp
  | true =>
   have := nodup_le (nodup_swap (pairsP_nodup a b)) (m := pairsP b a) fun p hp => by
    obtain ⟨q, hq, rfl⟩ := List.mem_map.1 hp
    exact (pairsP_mem hb ha).2 ((pairsP_mem ha hb).1 hq).turn
   simpa using this
theorem pairsP_turn (a b : Mac) : (pairsP a b).length = (pairsP b a).length := Nat.le_antisymm (pairsP_le a b) (pairsP_le b a)
theorem nextP_empty (a b : Mac) (x y : Int) : (nextP a b x y).isEmpty = (nextP b a y x).isEmpty := by
 unfold nextP
 cases delivs a x b y <;> cases delivs b y a x <;> rfl
theorem troubleP_turn (a b : Mac) (x y : Int) : troubleP a b x y = troubleP b a y x := by
 unfold troubleP
 rw [nextP_empty a b x y, Bool.or_comm (unreadP a b x y), Bool.and_comm (stopP a x)]
theorem firstP_none {a b : Mac} : (firstP a b).isNone = true ↔ ∀ p ∈ pairsP a b, troubleP a b p.1 p.2 = 0 := by
 unfold firstP
 rw [Option.isNone_iff_eq_none, List.find?_eq_none]
 constructor
 ·intro h p hp
  have := h p hp
  simpa using this
 ·intro h p hp
  simp [h p hp]
theorem safeP_iff {a b : Mac} : safeP a b = true ↔ isMac a = true ∧ isMac b = true ∧ ∀ p ∈ pairsP a b, troubleP a b p.1 p.2 = 0 := by
 unfold safeP
 rw [Bool.and_eq_true, Bool.and_eq_true, firstP_none]
theorem safeP_to {a b : Mac} (h : safeP a b = true) : safeP b a = true := by
 obtain ⟨ha, hb, hp⟩ := safeP_iff.1 h
 refine safeP_iff.2 ⟨hb, ha, fun p hm => ?_⟩
 have := hp p.swap ((pairsP_mem ha hb).2 ((pairsP_mem hb ha).1 hm).turn)
 rw [troubleP_turn]
 exact this
theorem safeP_turn (a b : Mac) : safeP a b = safeP b a := by
 cases h : safeP a b with
 | true => exact (safeP_to h).symm
 | false =>
  cases h2 : safeP b a with
  | true => rw [safeP_to h2] at h; cases h
  | false => rfl
/-- Whoever is safe has no trouble. -/
theorem safe_row {a b : Mac} (h : safeP a b = true) : (rowOf (firstP a b)).length = 0 := by
 unfold safeP at h
 rw [Bool.and_eq_true, Bool.and_eq_true, Option.isNone_iff_eq_none] at h
 rw [h.2.2]
 rfl
theorem unsafe_row {a b : Mac} (h : safeP a b = false) (ha : isMac a = true) (hb : isMac b = true) : (rowOf (firstP a b)).length = 2 := by
 unfold safeP at h
 rw [ha, hb, Bool.true_and, Bool.true_and] at h
 cases e : firstP a b with
 | none => rw [e] at h; cases h
 | some p => rfl
theorem toOf_neg (l : List Mv) (s : Int) (b : Bool) (k : Int) : toOf (l.map Mv.neg) s b k = toOf l s (!b) k := by
 unfold toOf
 rw [List.find?_map, Option.map_map]
 have e1 : (hitM s b k ∘ Mv.neg) = hitM s (!b) k := by
  funext x
  cases x with
  | mk f sd m t => cases sd <;> cases b <;> rfl
 rw [e1]
 rfl
theorem delivs_dual {a : Mac} {s : Int} {q : Int × Int} (h : q ∈ delivs a s (dualM a) s) : q.1 = q.2 := by
 obtain ⟨k, hk, h2⟩ := List.mem_filterMap.1 h
 unfold deliv at h2
 rw [Option.map_eq_some_iff] at h2
 obtain ⟨r, hr, e⟩ := h2
 change toOf (a.moves.map Mv.neg) s false k = some r at hr
 rw [toOf_neg] at hr
 change toOf a.moves s true k = some r at hr
 rw [hr] at e
 subst e
 rfl
theorem delivs_dual2 {a : Mac} {s : Int} {q : Int × Int} (h : q ∈ delivs (dualM a) s a s) : q.1 = q.2 := by
 obtain ⟨k, hk, h2⟩ := List.mem_filterMap.1 h
 unfold deliv at h2
 rw [Option.map_eq_some_iff] at h2
 obtain ⟨r, hr, e⟩ := h2
 have : toOf (dualM a).moves s true k = toOf a.moves s false k := toOf_neg a.moves s true k
 rw [this, hr] at e
 subst e
 rfl
theorem nextP_dual {a : Mac} {s : Int} {q : Int × Int} (h : q ∈ nextP a (dualM a) s s) : q.1 = q.2 := by
 rcases List.mem_append.1 h with h | h
 ·exact delivs_dual h
 ·obtain ⟨p, hp, rfl⟩ := List.mem_map.1 h
  exact (delivs_dual2 hp).symm
theorem reach_dual {a : Mac} {p : Int × Int} (h : Reach a (dualM a) p) : p.1 = p.2 := by
 induction h with
 | start => rfl
 | step _ hq ih =>
  rw [← ih] at hq
  exact nextP_dual hq
theorem unread_dual (a : Mac) (s : Int) : unreadP a (dualM a) s s = false ∧ unreadP (dualM a) a s s = false := by
 constructor
 ·unfold unreadP
  rw [List.any_eq_false]
  intro k hk
  obtain ⟨t, ht⟩ := sent_to hk
  have : toOf (dualM a).moves s false k = toOf a.moves s true k := toOf_neg a.moves s false k
  rw [this, ht]
  simp
 ·unfold unreadP
  rw [List.any_eq_false]
  intro k hk
  obtain ⟨t, ht⟩ := sent_to hk
  have : toOf (dualM a).moves s true k = toOf a.moves s false k := toOf_neg a.moves s true k
  rw [this] at ht
  rw [ht]
  simp
/-- What holds of every pair that a machine reaches with its dual. -/
theorem pairs_dual {a : Mac} {p : Int × Int} (h : p ∈ pairsP a (dualM a)) : p.1 = p.2 ∧ troubleP a (dualM a) p.1 p.2 ≠ 1 ∧ ∀ q ∈ nextP a (dualM a) p.1 p.2, 0 ≤ q.1 ∧ q.1 < a.st := by
 cases ha : isMac a with
 | false => rw [pairsP_none (Or.inl ha)] at h; simp at h
 | true =>
  cases hd : isMac (dualM a) with
  | false => rw [pairsP_none (Or.inr hd)] at h; simp at h
  | true =>
   have e := reach_dual ((pairsP_mem ha hd).1 h)
   refine ⟨e, ?_, fun q hq => ?_⟩
   ·rw [← e]
    unfold troubleP
    rw [(unread_dual a p.1).1, (unread_dual a p.1).2, Bool.or_false, if_neg (by decide)]
    split <;> decide
   ·obtain ⟨⟨m, hm, e2⟩, _⟩ := nextP_mem hq
    have := (isMac_to ha).2 m hm
    omega
end Go.Proofs.YtckmgbobkffabaaGreat
namespace Go.Proofs.YtckmgbobkffabaaGreat
open Go.ChangeShapes Go.WideShapes Go.ChangeAt Go.RowKit
set_option linter.unusedVariables false

theorem someOf_sub {l m : List Int} (h : someOf l m = true) : ∀ k ∈ l, k ∈ m := fun k hk => by
 unfold someOf at h
 rw [Bool.and_eq_true, List.all_eq_true] at h
 exact of_decide_eq_true (h.1 k hk)
theorem someOf_none {l m : List Int} (h : someOf l m = true) : l = [] ↔ m = [] := by
 unfold someOf at h
 rw [Bool.and_eq_true, beq_iff_eq] at h
 rw [← List.isEmpty_iff, ← List.isEmpty_iff, h.2]
theorem someOf_of {l m : List Int} (h1 : ∀ k ∈ l, k ∈ m) (h2 : l = [] ↔ m = []) : someOf l m = true := by
 unfold someOf
 rw [Bool.and_eq_true, List.all_eq_true, beq_iff_eq]
 refine ⟨fun k hk => decide_eq_true (h1 k hk), ?_⟩
 rw [← List.isEmpty_iff, ← List.isEmpty_iff] at h2
 exact Bool.eq_iff_iff.2 h2
theorem someOf_self (l : List Int) : someOf l l = true := someOf_of (fun _ h => h) Iff.rfl
theorem someOf_trans {l m n : List Int} (h : someOf l m = true) (k : someOf m n = true) : someOf l n = true :=
 someOf_of (fun x hx => someOf_sub k x (someOf_sub h x hx)) ((someOf_none h).trans (someOf_none k))
/-- What FollowsAt says. -/
theorem followsAt_iff {a b : Mac} {x y : Int} : followsAtP a b x y = true ↔ someOf (movesFrom a x true) (movesFrom b y true) = true ∧ someOf (movesFrom b y false) (movesFrom a x false) = true ∧ (endP b y = true → endP a x = true) := by
 unfold followsAtP
 rw [Bool.and_eq_true, Bool.and_eq_true]
 cases endP a x <;> cases endP b y <;> simp
theorem followsAt_self (a : Mac) (x : Int) : followsAtP a a x x = true := followsAt_iff.2 ⟨someOf_self _, someOf_self _, fun h => h⟩
theorem sames_self {a : Mac} {p : Int × Int} (h : ReachG (samesP a a) p) : p.1 = p.2 := by
 induction h with
 | start => rfl
 | step _ hq ih =>
  obtain ⟨c, k, h1, h2⟩ := samesP_mem.1 hq
  rw [ih, h2] at h1
  exact (Option.some.inj h1).symm
theorem follow_self (a : Mac) : followsP a a = isMac a := by
 rw [Bool.eq_iff_iff, followsP_iff]
 refine ⟨fun h => h.1, fun h => ⟨h, h, fun p hp => ?_⟩⟩
 rw [sames_self hp]
 exact followsAt_self a _
theorem follow_trans {a b c : Mac} (h : followsP a b = true) (k : followsP b c = true) : followsP a c = true := by
 obtain ⟨ha, hb, h3⟩ := followsP_iff.1 h
 obtain ⟨_, hc, k3⟩ := followsP_iff.1 k
 have key : ∀ p, ReachG (samesP a c) p → ∃ y, ReachG (samesP a b) (p.1, y) ∧ ReachG (samesP b c) (y, p.2) := fun p hp => by
  induction hp with
  | start => exact ⟨0, ReachG.start, ReachG.start⟩
  | @step p q _ hq ih =>
   obtain ⟨y, r1, r2⟩ := ih
   obtain ⟨d, z, e1, e2⟩ := samesP_mem.1 hq
   have f1 := followsAt_iff.1 (h3 _ r1)
   have f2 := followsAt_iff.1 (k3 _ r2)
   have hz : z ∈ movesFrom b y d := by
    cases d with
    | true => exact someOf_sub f1.1 z (toOf_from e1)
    | false => exact someOf_sub f2.2.1 z (toOf_from e2)
   obtain ⟨t, ht⟩ := sent_to hz
   exact ⟨t, ReachG.step r1 (samesP_mem.2 ⟨d, z, e1, ht⟩), ReachG.step r2 (samesP_mem.2 ⟨d, z, ht, e2⟩)⟩
 refine followsP_iff.2 ⟨ha, hc, fun p hp => ?_⟩
 obtain ⟨y, r1, r2⟩ := key p hp
 obtain ⟨a1, a2, a3⟩ := followsAt_iff.1 (h3 _ r1)
 obtain ⟨b1, b2, b3⟩ := followsAt_iff.1 (k3 _ r2)
 exact followsAt_iff.2 ⟨someOf_trans a1 b1, someOf_trans b2 a2, fun e => a3 (b3 e)⟩
theorem nextP_iff {a b : Mac} {x y : Int} {q : Int × Int} : q ∈ nextP a b x y ↔ (∃ k, toOf a.moves x true k = some q.1 ∧ toOf b.moves y false k = some q.2) ∨ ∃ k, toOf a.moves x false k = some q.1 ∧ toOf b.moves y true k = some q.2 := by
 unfold nextP
 rw [List.mem_append, delivs_shared, delivs_shared, sharedP_mem]
 have h : q ∈ (sharedP b y true a x false).map Prod.swap ↔ q.swap ∈ sharedP b y true a x false := by
  have e := swap_mem (l := sharedP b y true a x false) (q := q.swap)
  rw [Prod.swap_swap] at e
  exact e
 rw [h, sharedP_mem]
 constructor
 ·rintro (h | ⟨k, h1, h2⟩)
  ·exact Or.inl h
  ·exact Or.inr ⟨k, h2, h1⟩
 ·rintro (h | ⟨k, h1, h2⟩)
  ·exact Or.inl h
  ·exact Or.inr ⟨k, h2, h1⟩
theorem unread_iff {a b : Mac} {x y : Int} : unreadP a b x y = false ↔ ∀ k ∈ movesFrom a x true, ∃ t, toOf b.moves y false k = some t := by
 unfold unreadP
 rw [List.any_eq_false]
 constructor
 ·intro h k hk
  have := h k hk
  cases e : toOf b.moves y false k with
  | none => rw [e] at this; simp at this
  | some t => exact ⟨t, rfl⟩
 ·intro h k hk
  obtain ⟨t, ht⟩ := h k hk
  rw [ht]
  simp
theorem trouble_iff {a b : Mac} {x y : Int} : troubleP a b x y = 0 ↔ unreadP a b x y = false ∧ unreadP b a y x = false ∧ (nextP a b x y = [] → stopP a x = true ∧ stopP b y = true) := by
 unfold troubleP
 rw [← List.isEmpty_iff]
 cases unreadP a b x y <;> cases unreadP b a y x <;> cases (nextP a b x y).isEmpty <;> cases stopP a x <;> cases stopP b y <;> simp
/-- Whoever is safe with the older machine is safe with the newer one. -/
theorem follow_safe {n o a : Mac} (h : followsP n o = true) (hs : safeP o a = true) : safeP n a = true := by
 obtain ⟨hn, ho, h3⟩ := followsP_iff.1 h
 obtain ⟨_, ha, hs3⟩ := safeP_iff.1 hs
 have hq : ∀ p, Reach o a p → troubleP o a p.1 p.2 = 0 := fun p hp => hs3 p ((pairsP_mem ho ha).2 hp)
 have key : ∀ p, Reach n a p → ∃ y, ReachG (samesP n o) (p.1, y) ∧ Reach o a (y, p.2) := fun p hp => by
  induction hp with
  | start => exact ⟨0, ReachG.start, Reach.start⟩
  | @step p q _ hst ih =>
   obtain ⟨y, r1, r2⟩ := ih
   obtain ⟨f1, f2, _⟩ := followsAt_iff.1 (h3 _ r1)
   obtain ⟨u1, u2, _⟩ := trouble_iff.1 (hq _ r2)
   rcases nextP_iff.1 hst with ⟨k, e1, e2⟩ | ⟨k, e1, e2⟩
   ·obtain ⟨t, ht⟩ := sent_to (someOf_sub f1 k (toOf_from e1))
    exact ⟨t, ReachG.step r1 (samesP_mem.2 ⟨true, k, e1, ht⟩), Reach.step r2 (nextP_iff.2 (Or.inl ⟨k, ht, e2⟩))⟩
   ·obtain ⟨t, ht⟩ := unread_iff.1 u2 k (toOf_from e2)
    exact ⟨t, ReachG.step r1 (samesP_mem.2 ⟨false, k, e1, ht⟩), Reach.step r2 (nextP_iff.2 (Or.inr ⟨k, ht, e2⟩))⟩
 refine safeP_iff.2 ⟨hn, ha, fun p hp => ?_⟩
 obtain ⟨y, r1, r2⟩ := key p ((pairsP_mem hn ha).1 hp)
 obtain ⟨f1, f2, f3⟩ := followsAt_iff.1 (h3 _ r1)
 obtain ⟨u1, u2, u3⟩ := trouble_iff.1 (hq _ r2)
 rw [endP_stop hn, endP_stop ho] at f3
 refine trouble_iff.2 ⟨unread_iff.2 fun k hk => unread_iff.1 u1 k (someOf_sub f1 k hk), unread_iff.2 fun k hk => ?_, fun he => ?_⟩
 ·obtain ⟨t, ht⟩ := unread_iff.1 u2 k hk
  exact sent_to (someOf_sub f2 k (toOf_from ht))
 ·have hno : nextP o a y p.2 = [] := by
   cases hnx : nextP o a y p.2 with
   | nil => rfl
   | cons q t =>
    exfalso
    have hmem : q ∈ nextP o a y p.2 := by rw [hnx]; simp
    have hempty : ∀ r, r ∉ nextP n a p.1 p.2 := fun r hr => by rw [he] at hr; cases hr
    rcases nextP_iff.1 hmem with ⟨k, e1, e2⟩ | ⟨k, e1, e2⟩
    ·cases hl : movesFrom n p.1 true with
     | nil =>
      have := (someOf_none f1).1 hl
      have hk := toOf_from e1
      rw [this] at hk
      cases hk
     | cons k' t' =>
      have hk' : k' ∈ movesFrom n p.1 true := by rw [hl]; simp
      obtain ⟨s1, hs1⟩ := sent_to hk'
      obtain ⟨s2, hs2⟩ := unread_iff.1 u1 k' (someOf_sub f1 k' hk')
      exact hempty (s1, s2) (nextP_iff.2 (Or.inl ⟨k', hs1, hs2⟩))
    ·obtain ⟨s1, hs1⟩ := sent_to (someOf_sub f2 k (toOf_from e1))
     exact hempty (s1, q.2) (nextP_iff.2 (Or.inr ⟨k, hs1, e2⟩))
  obtain ⟨g1, g2⟩ := u3 hno
  exact ⟨f3 g1, g2⟩
theorem follow_at {n o : Mac} (h : followsP n o = true) : ∀ p ∈ followP n o, followsAtP n o p.1 p.2 = true := fun p hp => by
 obtain ⟨hn, ho, h3⟩ := followsP_iff.1 h
 rw [followP_yes hn ho] at hp
 exact h3 p (foundG_reach _ 36 p hp)
theorem follow_pos {n o : Mac} (h : followsP n o = true) : 0 < (followP n o).length := by
 obtain ⟨hn, ho, _⟩ := followsP_iff.1 h
 rw [followP_yes hn ho]
 exact foundG_head _ 36
end Go.Proofs.YtckmgbobkffabaaGreat
