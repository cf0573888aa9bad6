/- Tags given: which one, and where its entry goes. No function of the program is spoken of. -/
import Derived.Test.YtjmabidahofbbaaRt
namespace Go.Proofs.Ytjmabidahofbbaa
open Go.ChangeShapes Go.WideShapes Go.ChangeAt Go.RowKit Go.Sort
set_option linter.unusedVariables false

/-- A tag that may not be given. -/
def tkn (l : List En) (t : Nat) : Bool := resv (t : Int) || l.any fun x => x.tag == (t : Int)
def freeFrom (l : List En) : Nat → Nat → Nat
  | 0, t => t
  | f + 1, t => if tkn l t then freeFrom l f (t + 1) else t
/-- The least tag that may be given. -/
def freeT (l : List En) : Nat := freeFrom l 13 0
theorem freeFrom_spec (l : List En) : ∀ (f t : Nat), (∃ u, t ≤ u ∧ u < t + f ∧ tkn l u = false) → tkn l (freeFrom l f t) = false ∧ t ≤ freeFrom l f t ∧ freeFrom l f t < t + f ∧ ∀ s, t ≤ s → s < freeFrom l f t → tkn l s = true
  | 0, t, ⟨u, h1, h2, _⟩ => by omega
  | f + 1, t, ⟨u, h1, h2, h3⟩ => by
    rw [freeFrom]
    cases h : tkn l t with
    | false =>
      simp only [Bool.false_eq_true, if_false]
      exact ⟨h, Nat.le_refl _, by omega, fun s s1 s2 => by omega⟩
    | true =>
      simp only [if_true]
      have hu : u ≠ t := fun e => by rw [e, h] at h3; cases h3
      obtain ⟨a1, a2, a3, a4⟩ := freeFrom_spec l f (t + 1) ⟨u, by omega, by omega, h3⟩
      refine ⟨a1, by omega, by omega, fun s s1 s2 => ?_⟩
      by_cases e : s = t
      · rw [e]; exact h
      · exact a4 s (by omega) s2
theorem sub_len : ∀ (S T : List Int), S.Nodup → (∀ x ∈ S, x ∈ T) → S.length ≤ T.length
  | [], T, _, _ => Nat.zero_le _
  | x :: S, T, hS, h => by
    have hx := h x (List.mem_cons_self ..)
    have hn := List.nodup_cons.1 hS
    have := sub_len S (T.erase x) hn.2 (fun y hy => by
      have hyx : y ≠ x := fun e => hn.1 (e ▸ hy)
      exact (List.mem_erase_of_ne hyx).2 (h y (List.mem_cons_of_mem _ hy)))
    rw [List.length_erase_of_mem hx] at this
    have : 0 < T.length := List.length_pos_of_mem hx
    simp only [List.length_cons]
    omega
theorem room_for (l : List En) (hl : l.length < 12) : ∃ u, 0 ≤ u ∧ u < 0 + 13 ∧ tkn l u = false := by
  apply Classical.byContradiction
  intro hno
  have hall : ∀ u : Nat, u < 13 → resv (u : Int) = false → (u : Int) ∈ l.map En.tag := fun u hu hr => by
    have ht : tkn l u = true := by
      cases h : tkn l u with
      | true => rfl
      | false => exact absurd ⟨u, Nat.zero_le _, by omega, h⟩ hno
    unfold tkn at ht
    rw [hr, Bool.false_or, List.any_eq_true] at ht
    obtain ⟨x, hx, e⟩ := ht
    exact List.mem_map.2 ⟨x, hx, by simpa using e⟩
  have := sub_len [0, 1, 2, 3, 4, 5, 6, 7, 8, 9, 11, 12] (l.map En.tag) (by decide) (fun x hx => by
    simp only [List.mem_cons, List.not_mem_nil, or_false] at hx
    rcases hx with rfl | rfl | rfl | rfl | rfl | rfl | rfl | rfl | rfl | rfl | rfl | rfl
    · exact hall 0 (by omega) (by decide)
    · exact hall 1 (by omega) (by decide)
    · exact hall 2 (by omega) (by decide)
    · exact hall 3 (by omega) (by decide)
    · exact hall 4 (by omega) (by decide)
    · exact hall 5 (by omega) (by decide)
    · exact hall 6 (by omega) (by decide)
    · exact hall 7 (by omega) (by decide)
    · exact hall 8 (by omega) (by decide)
    · exact hall 9 (by omega) (by decide)
    · exact hall 11 (by omega) (by decide)
    · exact hall 12 (by omega) (by decide))
  simp at this
  omega
theorem free_spec {l : List En} (hl : l.length < 12) : tkn l (freeT l) = false ∧ freeT l < 13 ∧ ∀ s, s < freeT l → tkn l s = true := by
  obtain ⟨a, _, c, d⟩ := freeFrom_spec l 13 0 (room_for l hl)
  exact ⟨a, by unfold freeT; omega, fun s hs => d s (Nat.zero_le _) hs⟩
theorem free_eq {l : List En} {t : Nat} (hl : l.length < 12) (h1 : tkn l t = false) (h2 : ∀ s, s < t → tkn l s = true) : t = freeT l := by
  obtain ⟨a, _, c⟩ := free_spec hl
  rcases Nat.lt_trichotomy t (freeT l) with h | h | h
  · rw [c t h] at h1; cases h1
  · exact h
  · rw [h2 _ h] at a; cases a

/-- Where an entry with this tag goes. -/
def plcOf (l : List En) (t : Int) : Nat := (l.takeWhile fun x => decide (x.tag < t)).length
theorem plcOf_le (l : List En) (t : Int) : plcOf l t ≤ l.length := (List.takeWhile_sublist _).length_le
theorem tw_len {α : Type} (p : α → Bool) : ∀ (l : List α) (k : Nat), k ≤ l.length → (∀ i x, l[i]? = some x → i < k → p x = true) → (∀ x, l[k]? = some x → p x = false) → (l.takeWhile p).length = k
  | [], k, hk, _, _ => by simp at hk; simp [hk]
  | y :: l, 0, hk, _, h2 => by
    have := h2 y rfl
    rw [List.takeWhile_cons, this]; rfl
  | y :: l, k + 1, hk, h1, h2 => by
    have hy := h1 0 y rfl (by omega)
    rw [List.takeWhile_cons, hy]
    simp only [if_true, List.length_cons]
    rw [tw_len p l k (by simpa using hk) (fun i x hx hi => h1 (i + 1) x (by simpa using hx) (by omega)) (fun x hx => h2 x (by simpa using hx))]
theorem Plc.at_ {l : List En} {t : Int} {k : Nat} {f : Bool} (h : Plc l t k f) : k = plcOf l t :=
  (tw_len _ l k h.le (fun i x hx hi => decide_eq_true (h.lo i x hx hi)) (fun x hx => decide_eq_false (by have := h.hi k x hx (Nat.le_refl _); omega))).symm
theorem Plc.any {l : List En} {t : Int} {k : Nat} {f : Bool} (h : Plc l t k f) : (l.any fun x => x.tag == t) = f := by
  cases f with
  | true =>
    obtain ⟨x, hx, e⟩ := h.yes rfl
    rw [List.any_eq_true]
    exact ⟨x, List.mem_of_getElem? hx, by simp [e]⟩
  | false =>
    rw [List.any_eq_false]
    intro x hx
    obtain ⟨i, hi, e⟩ := List.getElem_of_mem hx
    have := h.no rfl i x (by rw [List.getElem?_eq_getElem hi, e])
    simpa using this
/-- An entry put in its place. -/
def insB (l : List En) (x : En) : List En := l.take (plcOf l x.tag) ++ x :: l.drop (plcOf l x.tag)
theorem insB_len (l : List En) (x : En) : (insB l x).length = l.length + 1 := by
  have := plcOf_le l x.tag
  unfold insB
  simp
  omega
def asgOk (l : List En) (v : Int) : Bool := isReg l && inB v 0 9 && decide (l.length < 12)
def asgT (l : List En) (v : Int) : Int := if asgOk l v then (freeT l : Int) else -1
def asgL (l : List En) (v : Int) : List En := if asgOk l v then insB l ⟨(freeT l : Int), v, false⟩ else l
theorem asgL_len (l : List En) (v : Int) : (asgL l v).length ≤ l.length + 1 := by
  unfold asgL
  split
  · rw [insB_len]; exact Nat.le_refl _
  · omega
theorem asg_no {l : List En} {v : Int} (h : asgOk l v = false) : asgT l v = -1 ∧ asgL l v = l := by
  unfold asgT asgL
  rw [h]
  exact ⟨rfl, rfl⟩
theorem asg_yes {l : List En} {v : Int} (h : asgOk l v = true) : asgT l v = (freeT l : Int) ∧ asgL l v = insB l ⟨(freeT l : Int), v, false⟩ := by
  unfold asgT asgL
  rw [h]
  exact ⟨rfl, rfl⟩
theorem asg_parts {l : List En} {v : Int} (h : asgOk l v = true) : isReg l = true ∧ inB v 0 9 = true ∧ l.length < 12 := by
  unfold asgOk at h
  simp only [Bool.and_eq_true, decide_eq_true_eq] at h
  exact ⟨h.1.1, h.1.2, h.2⟩
/-- In a registry every tag that is there has an owner. -/
theorem regFrom_vend : ∀ (l : List En) (p : Int), regFrom p l = true → ∀ x ∈ l, 0 ≤ x.vend ∧ x.vend ≤ 9
  | [], _, _, x, hx => by cases hx
  | y :: l, p, h, x, hx => by
    rw [regFrom_cons] at h
    simp only [Bool.and_eq_true] at h
    rcases List.mem_cons.1 hx with rfl | hx
    · exact inB_iff.1 h.1.2
    · exact regFrom_vend l _ h.2 x hx
theorem own_any {l : List En} (h : isReg l = true) (t : Int) : decide (0 ≤ ownOf l t) = l.any fun x => x.tag == t := by
  unfold ownOf
  cases hf : l.find? (fun x => x.tag == t) with
  | none =>
    have : (l.any fun x => x.tag == t) = false := by
      rw [List.any_eq_false]
      intro x hx
      have := List.find?_eq_none.1 hf x hx
      simpa using this
    rw [this]; rfl
  | some x =>
    have hm := List.mem_of_find?_eq_some hf
    have ht := List.find?_some hf
    have hv := regFrom_vend l 0 (isReg_parts h).2 x hm
    have : (l.any fun x => x.tag == t) = true := List.any_eq_true.2 ⟨x, hm, ht⟩
    rw [this]
    exact decide_eq_true hv.1
end Go.Proofs.Ytjmabidahofbbaa
