/- Pairs of states of two machines: which ones follow, which are reached, what is wrong in them. No function of the program is spoken of. -/
import Derived.Test.YtckmgbobkffabaaIm
namespace Go.Proofs.Ytckmgbobkffabaa
open Go.ChangeShapes Go.WideShapes Go.ChangeAt Go.RowKit
set_option linter.unusedVariables false

/-- Where the first move with this From, Send and Msg leads to. -/
def toOf (l : List Mv) (s : Int) (b : Bool) (k : Int) : Option Int := (l.find? (hitM s b k)).map Mv.to
/-- The moves' numbers and ends are integers of 64 bits. -/
def Wmv (x : Mv) : Prop := (Lit.int .i64 x.msg).wf = true ∧ (Lit.int .i64 x.to).wf = true
theorem toOf_mem {l : List Mv} {s : Int} {b : Bool} {k t : Int} (h : toOf l s b k = some t) : ∃ m ∈ l, m.to = t ∧ hitM s b k m = true := by
  unfold toOf at h
  rw [Option.map_eq_some_iff] at h
  obtain ⟨m, h1, h2⟩ := h
  exact ⟨m, List.mem_of_find?_eq_some h1, h2, List.find?_some h1⟩
theorem toOf_none {l : List Mv} {s : Int} {b : Bool} {k : Int} (h : toOf l s b k = none) : l.any (hitM s b k) = false := by
  unfold toOf at h
  rw [Option.map_eq_none_iff, List.find?_eq_none] at h
  rw [List.any_eq_false]
  intro x hx
  exact h x hx
theorem toOf_first {l : List Mv} {s : Int} {b : Bool} {k : Int} {j : Nat} {x : Mv} (hx : l[j]? = some x) (hp : hitM s b k x = true) (hn : (l.take j).any (hitM s b k) = false) : toOf l s b k = some x.to := by
  unfold toOf
  have hj := at_lt hx
  have : l.find? (hitM s b k) = some x := by
    rw [List.find?_eq_some_iff_getElem]
    rw [List.getElem?_eq_getElem hj] at hx
    refine ⟨hp, j, hj, Option.some.inj hx, fun i hi => ?_⟩
    rw [List.any_eq_false] at hn
    have := hn _ (List.mem_iff_getElem?.2 ⟨i, by rw [List.getElem?_take, if_pos hi, List.getElem?_eq_getElem (by omega)]⟩)
    simpa using this
  rw [this]
  rfl
theorem mem_movesFrom {x : Mac} {s : Int} {b : Bool} {k : Int} : k ∈ movesFrom x s b ↔ ∃ m ∈ x.moves, hitM s b k m = true := by
  unfold movesFrom
  rw [(puts_asc (acc := []) (by simp [Asc])).2 k]
  unfold msgsOf
  constructor
  · rintro (h | h)
    · simp at h
    · obtain ⟨m, h1, h2⟩ := List.mem_map.1 h
      obtain ⟨h3, h4⟩ := List.mem_filter.1 h1
      refine ⟨m, h3, ?_⟩
      simp only [fromM, Bool.and_eq_true, beq_iff_eq] at h4
      exact hitM_iff.2 ⟨h4.1, h4.2, h2⟩
  · rintro ⟨m, h1, h2⟩
    obtain ⟨e1, e2, e3⟩ := hitM_iff.1 h2
    exact Or.inr (List.mem_map.2 ⟨m, List.mem_filter.2 ⟨h1, by simp [fromM, e1, e2]⟩, e3⟩)
theorem sent_to {x : Mac} {s : Int} {b : Bool} {k : Int} (h : k ∈ movesFrom x s b) : ∃ t, toOf x.moves s b k = some t := by
  obtain ⟨m, h1, h2⟩ := mem_movesFrom.1 h
  cases e : toOf x.moves s b k with
  | some t => exact ⟨t, rfl⟩
  | none =>
    have := toOf_none e
    rw [List.any_eq_false] at this
    exact absurd h2 (by simpa using this m h1)
/-- One delivery: the states that follow. -/
def deliv (x : Mac) (s : Int) (y : Mac) (t : Int) (k : Int) : Option (Int × Int) := (toOf y.moves t false k).map fun r => ((toOf x.moves s true k).getD 0, r)
/-- All deliveries of messages that the first machine sends. -/
def delivs (x : Mac) (s : Int) (y : Mac) (t : Int) : List (Int × Int) := (movesFrom x s true).filterMap (deliv x s y t)
theorem delivs_len (x : Mac) (s : Int) (y : Mac) (t : Int) : (delivs x s y t).length ≤ x.moves.length :=
  Nat.le_trans (List.length_filterMap_le _ _) (movesFrom_len _ _ _)
def nextP (a b : Mac) (x y : Int) : List (Int × Int) := delivs a x b y ++ (delivs b y a x).map Prod.swap
theorem nextP_len (a b : Mac) (x y : Int) : (nextP a b x y).length ≤ a.moves.length + b.moves.length := by
  have h1 := delivs_len a x b y
  have h2 := delivs_len b y a x
  unfold nextP
  rw [List.length_append, List.length_map]
  omega
def unreadP (a b : Mac) (x y : Int) : Bool := (movesFrom a x true).any fun k => (toOf b.moves y false k).isNone
def stopP (a : Mac) (x : Int) : Bool := inB x 0 ((a.ends.length : Int) - 1) && a.ends.getD x.toNat false
/-- What is wrong in a pair of states. -/
def troubleP (a b : Mac) (x y : Int) : Int :=
  if (unreadP a b x y || unreadP b a y x) = true then 1 else if ((nextP a b x y).isEmpty && !(stopP a x && stopP b y)) = true then 2 else 0
/-- New ones are put behind those that are there. -/
def grow1 (o : List (Int × Int)) (p : Int × Int) : List (Int × Int) := if p ∈ o then o else o ++ [p]
def growP (o l : List (Int × Int)) : List (Int × Int) := l.foldl grow1 o
/-- What is found once the first i pairs were looked at. -/
def found (a b : Mac) : Nat → List (Int × Int)
  | 0 => [(0, 0)]
  | i + 1 => match (found a b i)[i]? with
    | some p => growP (found a b i) (nextP a b p.1 p.2)
    | none => found a b i
def pairsP (a b : Mac) : List (Int × Int) := if (isMac a && isMac b) = true then found a b 36 else []
def firstP (a b : Mac) : Option (Int × Int) := (pairsP a b).find? fun p => troubleP a b p.1 p.2 != 0
def rowOf (p : Option (Int × Int)) : List Int := match p with | some p => [p.1, p.2] | none => []
def safeP (a b : Mac) : Bool := isMac a && (isMac b && (firstP a b).isNone)

theorem grow1_len (o : List (Int × Int)) (p : Int × Int) : o.length ≤ (grow1 o p).length ∧ (grow1 o p).length ≤ o.length + 1 := by
  unfold grow1
  split <;> simp
theorem growP_step {o l : List (Int × Int)} {j : Nat} {p : Int × Int} (h : l[j]? = some p) : growP o (l.take (j + 1)) = grow1 (growP o (l.take j)) p := by
  unfold growP
  rw [List.take_add_one, h, List.foldl_append]
  rfl
theorem growP_mem {l : List (Int × Int)} : ∀ {o : List (Int × Int)} {q : Int × Int}, q ∈ growP o l ↔ q ∈ o ∨ q ∈ l := by
  induction l with
  | nil => intro o q; simp [growP]
  | cons x t ih =>
    intro o q
    show q ∈ growP (grow1 o x) t ↔ _
    rw [ih]
    unfold grow1
    split
    · rename_i hx
      constructor
      · rintro (h | h)
        · exact Or.inl h
        · exact Or.inr (by simp [h])
      · rintro (h | h)
        · exact Or.inl h
        · rcases List.mem_cons.1 h with h | h
          · rw [h]; exact Or.inl hx
          · exact Or.inr h
    · simp [or_assoc]
theorem growP_nodup {l : List (Int × Int)} : ∀ {o : List (Int × Int)}, o.Nodup → (growP o l).Nodup := by
  induction l with
  | nil => intro o h; exact h
  | cons x t ih =>
    intro o h
    show (growP (grow1 o x) t).Nodup
    refine ih ?_
    unfold grow1
    split
    · exact h
    · rename_i hx
      rw [List.nodup_append]
      exact ⟨h, by simp, fun a ha b hb e => by
        have : b = x := by simpa using hb
        subst this
        subst e
        exact hx ha⟩
theorem growP_pre {l : List (Int × Int)} : ∀ {o : List (Int × Int)}, ∃ r, growP o l = o ++ r := by
  induction l with
  | nil => intro o; exact ⟨[], by simp [growP]⟩
  | cons x t ih =>
    intro o
    obtain ⟨r, e⟩ := @ih (grow1 o x)
    show ∃ r, growP (grow1 o x) t = _
    rw [e]
    unfold grow1
    split
    · exact ⟨r, rfl⟩
    · exact ⟨[x] ++ r, by simp⟩
theorem nodup_le {α : Type} [DecidableEq α] : ∀ {l m : List α}, l.Nodup → (∀ x ∈ l, x ∈ m) → l.length ≤ m.length
  | [], m, _, _ => by simp
  | x :: t, m, h, hm => by
    have hx := hm x (by simp)
    obtain ⟨h1, h2⟩ := List.nodup_cons.1 h
    have ih := nodup_le (l := t) (m := m.erase x) h2 fun y hy => by
      rw [List.mem_erase_of_ne (fun e => h1 (by rw [← e]; exact hy))]
      exact hm y (by simp [hy])
    rw [List.length_erase_of_mem hx] at ih
    have : 0 < m.length := List.length_pos_of_mem hx
    simp only [List.length_cons]
    omega
theorem nextP_mem {a b : Mac} {x y : Int} {q : Int × Int} (h : q ∈ nextP a b x y) : (∃ m ∈ a.moves, m.to = q.1) ∧ ∃ m ∈ b.moves, m.to = q.2 := by
  have key : ∀ (a b : Mac) (x y : Int) (q : Int × Int), q ∈ delivs a x b y → (∃ m ∈ a.moves, m.to = q.1) ∧ ∃ m ∈ b.moves, m.to = q.2 := by
    intro a b x y q h
    obtain ⟨k, hk, h2⟩ := List.mem_filterMap.1 h
    unfold deliv at h2
    rw [Option.map_eq_some_iff] at h2
    obtain ⟨r, hr, e⟩ := h2
    obtain ⟨t, ht⟩ := sent_to hk
    rw [ht] at e
    subst e
    obtain ⟨m, m1, m2, _⟩ := toOf_mem ht
    obtain ⟨m', m1', m2', _⟩ := toOf_mem hr
    exact ⟨⟨m, m1, m2⟩, m', m1', m2'⟩
  rcases List.mem_append.1 h with h | h
  · exact key a b x y q h
  · obtain ⟨p, hp, e⟩ := List.mem_map.1 h
    subst e
    obtain ⟨h1, h2⟩ := key b a y x p hp
    exact ⟨h2, h1⟩
theorem isMac_to {a : Mac} (h : isMac a = true) : (1 ≤ a.st ∧ a.st ≤ 6) ∧ ∀ m ∈ a.moves, 0 ≤ m.to ∧ m.to < a.st := by
  unfold isMac at h
  simp only [Bool.and_eq_true, inB, decide_eq_true_eq, List.all_eq_true] at h
  obtain ⟨h1, h2, h3, h4, h5⟩ := h
  refine ⟨h1, fun m hm => ?_⟩
  have h6 := h4 m hm
  unfold goodM okM at h6
  simp only [Bool.and_eq_true, inB, decide_eq_true_eq] at h6
  omega
theorem isMac_len {a : Mac} (h : isMac a = true) : a.moves.length ≤ 12 := by
  unfold isMac at h
  simp only [Bool.and_eq_true, inB, decide_eq_true_eq, List.all_eq_true] at h
  exact h.2.2.1
theorem found_nodup (a b : Mac) : ∀ i, (found a b i).Nodup
  | 0 => by simp [found]
  | i + 1 => by
    unfold found
    split
    · exact growP_nodup (found_nodup a b i)
    · exact found_nodup a b i
theorem found_in {a b : Mac} (ha : isMac a = true) (hb : isMac b = true) : ∀ i, ∀ p ∈ found a b i, (0 ≤ p.1 ∧ p.1 < a.st) ∧ 0 ≤ p.2 ∧ p.2 < b.st
  | 0, p, hp => by
    have : p = (0, 0) := by simpa [found] using hp
    subst this
    have := (isMac_to ha).1
    have := (isMac_to hb).1
    omega
  | i + 1, p, hp => by
    unfold found at hp
    split at hp
    · rename_i q hq
      rcases growP_mem.1 hp with h | h
      · exact found_in ha hb i p h
      · obtain ⟨⟨m, m1, m2⟩, m', m1', m2'⟩ := nextP_mem h
        have e1 := (isMac_to ha).2 m m1
        have e2 := (isMac_to hb).2 m' m1'
        omega
    · exact found_in ha hb i p hp
/-- All pairs of states that there may be. -/
def allP : List (Int × Int) := (List.range 36).map fun k => (((k / 6 : Nat) : Int), ((k % 6 : Nat) : Int))
theorem mem_allP {p : Int × Int} (h1 : 0 ≤ p.1 ∧ p.1 < 6) (h2 : 0 ≤ p.2 ∧ p.2 < 6) : p ∈ allP := by
  unfold allP
  refine List.mem_map.2 ⟨p.1.toNat * 6 + p.2.toNat, List.mem_range.2 (by omega), ?_⟩
  apply Prod.ext
  · show (((p.1.toNat * 6 + p.2.toNat) / 6 : Nat) : Int) = p.1
    omega
  · show (((p.1.toNat * 6 + p.2.toNat) % 6 : Nat) : Int) = p.2
    omega
theorem found_len {a b : Mac} (ha : isMac a = true) (hb : isMac b = true) (i : Nat) : (found a b i).length ≤ 36 := by
  have h := nodup_le (m := allP) (found_nodup a b i) fun p hp => by
    have h1 := found_in ha hb i p hp
    have h2 := (isMac_to ha).1
    have h3 := (isMac_to hb).1
    exact mem_allP (by omega) (by omega)
  simpa [allP] using h
theorem found_stay {a b : Mac} {i : Nat} (h : (found a b i).length ≤ i) : ∀ k, found a b (i + k) = found a b i
  | 0 => rfl
  | k + 1 => by
    have ih := found_stay h k
    show (match (found a b (i + k))[i + k]? with
      | some p => growP (found a b (i + k)) (nextP a b p.1 p.2)
      | none => found a b (i + k)) = _
    rw [ih, List.getElem?_eq_none (by omega)]
theorem found_end {a b : Mac} (ha : isMac a = true) (hb : isMac b = true) {i : Nat} (hi : i ≤ 36) (h : (found a b i).length ≤ i) : found a b i = pairsP a b := by
  unfold pairsP
  rw [if_pos (by rw [ha, hb]; rfl), show (36 : Nat) = i + (36 - i) by omega, found_stay h]
theorem found_step {a b : Mac} {i : Nat} {p : Int × Int} (h : (found a b i)[i]? = some p) : found a b (i + 1) = growP (found a b i) (nextP a b p.1 p.2) := by
  show (match (found a b i)[i]? with
    | some p => growP (found a b i) (nextP a b p.1 p.2)
    | none => found a b i) = _
  rw [h]
theorem pairsP_len (a b : Mac) : (pairsP a b).length ≤ 36 := by
  unfold pairsP
  split
  · rename_i h
    rw [Bool.and_eq_true] at h
    exact found_len h.1 h.2 36
  · simp
theorem growP_len_le {l : List (Int × Int)} : ∀ {o : List (Int × Int)}, (growP o l).length ≤ o.length + l.length := by
  induction l with
  | nil => intro o; simp [growP]
  | cons x t ih =>
    intro o
    show (growP (grow1 o x) t).length ≤ _
    have := @ih (grow1 o x)
    have := (grow1_len o x).2
    simp only [List.length_cons]
    omega
end Go.Proofs.Ytckmgbobkffabaa
