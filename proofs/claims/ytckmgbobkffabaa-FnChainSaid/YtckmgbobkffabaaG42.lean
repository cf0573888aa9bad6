/- Successors: each valid machine follows itself, following is handed on along a chain, and whoever is safe with the older machine is safe with the newer one. No function of the program is spoken of. A line of machines in which each follows the one before it: each follows all before it. No function of the program is spoken of. -/
import Derived.Test.YtckmgbobkffabaaG17
import Derived.Test.YtckmgbobkffabaaG41
import Derived.Test.YtckmgbobkffabaaG32
import Derived.Test.YtckmgbobkffabaaG1
namespace Go.Proofs.Ytckmgbobkffabaa
open Go.ChangeShapes Go.WideShapes Go.ChangeAt Go.RowKit
set_option linter.unusedVariables false

theorem someOf_sub {l m : List Int} (h : someOf l m = true) : ∀ k ∈ l, k ∈ m := fun k hk => by
 unfold someOf at h
 rw [Bool.and_eq_true, List.all_eq_true] at h
 exact of_decide_eq_true (h.1 k hk)
theorem someOf_none {l m : List Int} (h : someOf l m = true) : l = [] ↔ m = [] := by
 unfold someOf at h
 rw [Bool.and_eq_true, beq_iff_eq] at h
 rw [← List.isEmpty_iff, ← List.isEmpty_iff, h.2]
theorem someOf_of {l m : List Int} (h1 : ∀ k ∈ l, k ∈ m) (h2 : l = [] ↔ m = []) : someOf l m = true := by
 unfold someOf
 rw [Bool.and_eq_true, List.all_eq_true, beq_iff_eq]
 refine ⟨fun k hk => decide_eq_true (h1 k hk), ?_⟩
 rw [← List.isEmpty_iff, ← List.isEmpty_iff] at h2
 exact Bool.eq_iff_iff.2 h2
theorem someOf_self (l : List Int) : someOf l l = true := someOf_of (fun _ h => h) Iff.rfl
theorem someOf_trans {l m n : List Int} (h : someOf l m = true) (k : someOf m n = true) : someOf l n = true :=
 someOf_of (fun x hx => someOf_sub k x (someOf_sub h x hx)) ((someOf_none h).trans (someOf_none k))
/-- What FollowsAt says. -/
theorem followsAt_iff {a b : Mac} {x y : Int} : followsAtP a b x y = true ↔ someOf (movesFrom a x true) (movesFrom b y true) = true ∧ someOf (movesFrom b y false) (movesFrom a x false) = true ∧ (endP b y = true → endP a x = true) := by
 unfold followsAtP
 rw [Bool.and_eq_true, Bool.and_eq_true]
 cases endP a x <;> cases endP b y <;> simp
theorem followsAt_self (a : Mac) (x : Int) : followsAtP a a x x = true := followsAt_iff.2 ⟨someOf_self _, someOf_self _, fun h => h⟩
theorem sames_self {a : Mac} {p : Int × Int} (h : ReachG (samesP a a) p) : p.1 = p.2 := by
 induction h with
 | start => rfl
 | step _ hq ih =>
  obtain ⟨c, k, h1, h2⟩ := samesP_mem.1 hq
  rw [ih, h2] at h1
  exact (Option.some.inj h1).symm
theorem follow_self (a : Mac) : followsP a a = isMac a := by
 rw [Bool.eq_iff_iff, followsP_iff]
 refine ⟨fun h => h.1, fun h => ⟨h, h, fun p hp => ?_⟩⟩
 rw [sames_self hp]
 exact followsAt_self a _
theorem follow_trans {a b c : Mac} (h : followsP a b = true) (k : followsP b c = true) : followsP a c = true := by
 obtain ⟨ha, hb, h3⟩ := followsP_iff.1 h
 obtain ⟨_, hc, k3⟩ := followsP_iff.1 k
 have key : ∀ p, ReachG (samesP a c) p → ∃ y, ReachG (samesP a b) (p.1, y) ∧ ReachG (samesP b c) (y, p.2) := fun p hp => by
  induction hp with
  | start => exact ⟨0, ReachG.start, ReachG.start⟩
  | @step p q _ hq ih =>
   obtain ⟨y, r1, r2⟩ := ih
   obtain ⟨d, z, e1, e2⟩ := samesP_mem.1 hq
   have f1 := followsAt_iff.1 (h3 _ r1)
   have f2 := followsAt_iff.1 (k3 _ r2)
   have hz : z ∈ movesFrom b y d := by
    cases d with
    | true => exact someOf_sub f1.1 z (toOf_from e1)
    | false => exact someOf_sub f2.2.1 z (toOf_from e2)
   obtain ⟨t, ht⟩ := sent_to hz
   exact ⟨t, ReachG.step r1 (samesP_mem.2 ⟨d, z, e1, ht⟩), ReachG.step r2 (samesP_mem.2 ⟨d, z, ht, e2⟩)⟩
 refine followsP_iff.2 ⟨ha, hc, fun p hp => ?_⟩
 obtain ⟨y, r1, r2⟩ := key p hp
 obtain ⟨a1, a2, a3⟩ := followsAt_iff.1 (h3 _ r1)
 obtain ⟨b1, b2, b3⟩ := followsAt_iff.1 (k3 _ r2)
 exact followsAt_iff.2 ⟨someOf_trans a1 b1, someOf_trans b2 a2, fun e => a3 (b3 e)⟩
theorem nextP_iff {a b : Mac} {x y : Int} {q : Int × Int} : q ∈ nextP a b x y ↔ (∃ k, toOf a.moves x true k = some q.1 ∧ toOf b.moves y false k = some q.2) ∨ ∃ k, toOf a.moves x false k = some q.1 ∧ toOf b.moves y true k = some q.2 := by
 unfold nextP
 rw [List.mem_append, delivs_shared, delivs_shared, sharedP_mem]
 have h : q ∈ (sharedP b y true a x false).map Prod.swap ↔ q.swap ∈ sharedP b y true a x false := by
  have e := swap_mem (l := sharedP b y true a x false) (q := q.swap)
  rw [Prod.swap_swap] at e
  exact e
 rw [h, sharedP_mem]
 constructor
 ·rintro (h | ⟨k, h1, h2⟩)
  ·exact Or.inl h
  ·exact Or.inr ⟨k, h2, h1⟩
 ·rintro (h | ⟨k, h1, h2⟩)
  ·exact Or.inl h
  ·exact Or.inr ⟨k, h2, h1⟩
theorem unread_iff {a b : Mac} {x y : Int} : unreadP a b x y = false ↔ ∀ k ∈ movesFrom a x true, ∃ t, toOf b.moves y false k = some t := by
 unfold unreadP
 rw [List.any_eq_false]
 constructor
 ·intro h k hk
  have := h k hk
  cases e : toOf b.moves y false k with
  | none => rw [e] at this; simp at this
  | some t => exact ⟨t, rfl⟩
 ·intro h k hk
  obtain ⟨t, ht⟩ := h k hk
  rw [ht]
  simp
theorem trouble_iff {a b : Mac} {x y : Int} : troubleP a b x y = 0 ↔ unreadP a b x y = false ∧ unreadP b a y x = false ∧ (nextP a b x y = [] → stopP a x = true ∧ stopP b y = true) := by
 unfold troubleP
 rw [← List.isEmpty_iff]
 cases unreadP a b x y <;> cases unreadP b a y x <;> cases (nextP a b x y).isEmpty <;> cases stopP a x <;> cases stopP b y <;> simp
/-- Whoever is safe with the older machine is safe with the newer one. -/
theorem follow_safe {n o a : Mac} (h : followsP n o = true) (hs : safeP o a = true) : safeP n a = true := by
 obtain ⟨hn, ho, h3⟩ := followsP_iff.1 h
 obtain ⟨_, ha, hs3⟩ := safeP_iff.1 hs
 have hq : ∀ p, Reach o a p → troubleP o a p.1 p.2 = 0 := fun p hp => hs3 p ((pairsP_mem ho ha).2 hp)
 have key : ∀ p, Reach n a p → ∃ y, ReachG (samesP n o) (p.1, y) ∧ Reach o a (y, p.2) := fun p hp => by
  induction hp with
  | start => exact ⟨0, ReachG.start, Reach.start⟩
  | @step p q _ hst ih =>
   obtain ⟨y, r1, r2⟩ := ih
   obtain ⟨f1, f2, _⟩ := followsAt_iff.1 (h3 _ r1)
   obtain ⟨u1, u2, _⟩ := trouble_iff.1 (hq _ r2)
   rcases nextP_iff.1 hst with ⟨k, e1, e2⟩ | ⟨k, e1, e2⟩
   ·obtain ⟨t, ht⟩ := sent_to (someOf_sub f1 k (toOf_from e1))
    exact ⟨t, ReachG.step r1 (samesP_mem.2 ⟨true, k, e1, ht⟩), Reach.step r2 (nextP_iff.2 (Or.inl ⟨k, ht, e2⟩))⟩
   ·obtain ⟨t, ht⟩ := unread_iff.1 u2 k (toOf_from e2)
    exact ⟨t, ReachG.step r1 (samesP_mem.2 ⟨false, k, e1, ht⟩), Reach.step r2 (nextP_iff.2 (Or.inr ⟨k, ht, e2⟩))⟩
 refine safeP_iff.2 ⟨hn, ha, fun p hp => ?_⟩
 obtain ⟨y, r1, r2⟩ := key p ((pairsP_mem hn ha).1 hp)
 obtain ⟨f1, f2, f3⟩ := followsAt_iff.1 (h3 _ r1)
 obtain ⟨u1, u2, u3⟩ := trouble_iff.1 (hq _ r2)
 rw [endP_stop hn, endP_stop ho] at f3
 refine trouble_iff.2 ⟨unread_iff.2 fun k hk => unread_iff.1 u1 k (someOf_sub f1 k hk), unread_iff.2 fun k hk => ?_, fun he => ?_⟩
 ·obtain ⟨t, ht⟩ := unread_iff.1 u2 k hk
  exact sent_to (someOf_sub f2 k (toOf_from ht))
 ·have hno : nextP o a y p.2 = [] := by
   cases hnx : nextP o a y p.2 with
   | nil => rfl
   | cons q t =>
    exfalso
    have hmem : q ∈ nextP o a y p.2 := by rw [hnx]; simp
    have hempty : ∀ r, r ∉ nextP n a p.1 p.2 := fun r hr => by rw [he] at hr; cases hr
    rcases nextP_iff.1 hmem with ⟨k, e1, e2⟩ | ⟨k, e1, e2⟩
    ·cases hl : movesFrom n p.1 true with
     | nil =>
      have := (someOf_none f1).1 hl
      have hk := toOf_from e1
      rw [this] at hk
      cases hk
     | cons k' t' =>
      have hk' : k' ∈ movesFrom n p.1 true := by rw [hl]; simp
      obtain ⟨s1, hs1⟩ := sent_to hk'
      obtain ⟨s2, hs2⟩ := unread_iff.1 u1 k' (someOf_sub f1 k' hk')
      exact hempty (s1, s2) (nextP_iff.2 (Or.inl ⟨k', hs1, hs2⟩))
    ·obtain ⟨s1, hs1⟩ := sent_to (someOf_sub f2 k (toOf_from e1))
     exact hempty (s1, q.2) (nextP_iff.2 (Or.inr ⟨k, hs1, e2⟩))
  obtain ⟨g1, g2⟩ := u3 hno
  exact ⟨f3 g1, g2⟩
theorem follow_at {n o : Mac} (h : followsP n o = true) : ∀ p ∈ followP n o, followsAtP n o p.1 p.2 = true := fun p hp => by
 obtain ⟨hn, ho, h3⟩ := followsP_iff.1 h
 rw [followP_yes hn ho] at hp
 exact h3 p (foundG_reach _ 36 p hp)
theorem follow_pos {n o : Mac} (h : followsP n o = true) : 0 < (followP n o).length := by
 obtain ⟨hn, ho, _⟩ := followsP_iff.1 h
 rw [followP_yes hn ho]
 exact foundG_head _ 36
end Go.Proofs.Ytckmgbobkffabaa
namespace Go.Proofs.Ytckmgbobkffabaa
open Go.ChangeShapes Go.WideShapes Go.ChangeAt Go.RowKit
set_option linter.unusedVariables false

theorem chain_mac {l : List Mac} (h : chainP l = true) : ∀ (j : Nat) (y : Mac), l[j]? = some y → isMac y = true := by
 obtain ⟨x, h0, hm, hs⟩ := chainP_iff.1 h
 intro j y hy
 cases j with
 | zero =>
  rw [h0] at hy
  rw [← Option.some.inj hy]
  exact hm
 | succ j =>
  have hj : j < l.length := by have := at_lt hy; omega
  exact (followsP_iff.1 (hs j _ y (List.getElem?_eq_getElem hj) hy)).1
theorem chain_line {l : List Mac} (h : chainP l = true) (i : Nat) : ∀ (d : Nat) (y z : Mac), l[i]? = some y → l[i + d]? = some z → followsP z y = true := by
 intro d
 induction d with
 | zero =>
  intro y z hy hz
  rw [Nat.add_zero, hy] at hz
  rw [← Option.some.inj hz, follow_self]
  exact chain_mac h i y hy
 | succ d ih =>
  intro y z hy hz
  have hd : i + d < l.length := by have := at_lt hz; omega
  obtain ⟨_, _, _, hs⟩ := chainP_iff.1 h
  exact follow_trans (hs (i + d) _ z (List.getElem?_eq_getElem hd) hz) (ih y _ hy (List.getElem?_eq_getElem hd))
theorem chain_pos {l : List Mac} (h : chainP l = true) : 0 < l.length := by
 obtain ⟨x, h0, _⟩ := chainP_iff.1 h
 exact at_lt h0
theorem chain_one {x : Mac} : chainP [x] = isMac x := by simp [chainP, chainFrom]
end Go.Proofs.Ytckmgbobkffabaa
