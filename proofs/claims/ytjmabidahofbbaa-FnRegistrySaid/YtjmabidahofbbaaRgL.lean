/- What a tag that is given does to a registry. No function of the program is spoken of. -/
import Derived.Test.YtjmabidahofbbaaAs0
import Derived.Test.YtjmabidahofbbaaLv
namespace Go.Proofs.Ytjmabidahofbbaa
open Go.ChangeShapes Go.WideShapes Go.ChangeAt Go.RowKit Go.Sort
set_option linter.unusedVariables false

def okE (x : En) : Prop := (0 ≤ x.tag ∧ x.tag ≤ 255) ∧ resv x.tag = false ∧ (0 ≤ x.vend ∧ x.vend ≤ 9)
theorem regFrom_ok : ∀ (l : List En) (p : Int), 0 ≤ p → regFrom p l = true → ∀ x ∈ l, okE x
  | [], _, _, _, x, hx => by cases hx
  | y :: l, p, hp, h, x, hx => by
    rw [regFrom_cons] at h
    simp only [Bool.and_eq_true, Bool.not_eq_true'] at h
    have h1 := inB_iff.1 h.1.1.1
    rcases List.mem_cons.1 hx with rfl | hx
    · exact ⟨⟨by omega, h1.2⟩, h.1.1.2, inB_iff.1 h.1.2⟩
    · exact regFrom_ok l _ (by omega) h.2 x hx
theorem sasc_pw {l : List En} : Sasc l ↔ l.Pairwise fun x y => x.tag < y.tag := by
  rw [List.pairwise_iff_getElem]
  constructor
  · intro h i j hi hj hij
    exact h i j _ _ (List.getElem?_eq_getElem hi) (List.getElem?_eq_getElem hj) hij
  · intro h i j x y hx hy hij
    have hi := lt_of_get hx
    have hj := lt_of_get hy
    rw [List.getElem?_eq_getElem hi] at hx
    rw [List.getElem?_eq_getElem hj] at hy
    rw [← Option.some.inj hx, ← Option.some.inj hy]
    exact h i j hi hj hij
theorem regFrom_of : ∀ (l : List En) (p : Int), (∀ x ∈ l, p ≤ x.tag) → (∀ x ∈ l, okE x) → (l.Pairwise fun x y => x.tag < y.tag) → regFrom p l = true
  | [], _, _, _, _ => rfl
  | y :: l, p, h1, h2, h3 => by
    rw [regFrom_cons]
    obtain ⟨a, b, c⟩ := h2 y (List.mem_cons_self ..)
    have hp := h1 y (List.mem_cons_self ..)
    rw [List.pairwise_cons] at h3
    rw [inB_yes hp a.2, b, inB_yes c.1 c.2, regFrom_of l (y.tag + 1) (fun x hx => by have := h3.1 x hx; omega) (fun x hx => h2 x (List.mem_cons_of_mem _ hx)) h3.2]
    rfl
theorem isReg_of {l : List En} (hl : l.length ≤ 12) (h2 : ∀ x ∈ l, okE x) (h3 : l.Pairwise fun x y => x.tag < y.tag) : isReg l = true := by
  unfold isReg
  rw [decide_eq_true hl, regFrom_of l 0 (fun x hx => (h2 x hx).1.1) h2 h3]
  rfl
theorem own_at {l : List En} (h : Sasc l) {j : Nat} {y : En} (hy : l[j]? = some y) : ownOf l y.tag = y.vend := by
  have hk := lt_of_get hy
  have hf : l.find? (fun z => z.tag == y.tag) = some y := by
    rw [List.find?_eq_some_iff_getElem]
    refine ⟨by simp, j, hk, ?_, fun i hi => ?_⟩
    · rw [List.getElem?_eq_getElem hk] at hy; exact Option.some.inj hy
    · have := h i j _ y (List.getElem?_eq_getElem (by omega)) hy hi
      simp; omega
  unfold ownOf
  rw [hf]
theorem own_mem {l : List En} (h : Sasc l) {y : En} (hy : y ∈ l) : ownOf l y.tag = y.vend := by
  obtain ⟨i, hi, e⟩ := List.getElem_of_mem hy
  exact own_at h (by rw [List.getElem?_eq_getElem hi, e])
theorem dw_ge (t : Int) : ∀ (l : List En), (l.Pairwise fun x y => x.tag < y.tag) → ∀ b ∈ l.dropWhile (fun x => decide (x.tag < t)), t ≤ b.tag
  | [], _, b, hb => by simp at hb
  | y :: l, h, b, hb => by
    rw [List.pairwise_cons] at h
    rw [List.dropWhile_cons] at hb
    by_cases hy : y.tag < t
    · rw [if_pos (decide_eq_true hy)] at hb
      exact dw_ge t l h.2 b hb
    · rw [if_neg (by simpa using hy)] at hb
      rcases List.mem_cons.1 hb with rfl | hb
      · omega
      · have := h.1 b hb; omega
theorem tw_take {α : Type} (p : α → Bool) : ∀ (l : List α), l.take (l.takeWhile p).length = l.takeWhile p
  | [] => by simp
  | y :: l => by
    rw [List.takeWhile_cons]
    cases h : p y with
    | false => simp
    | true =>
      simp only [if_true, List.length_cons, List.take_succ_cons]
      rw [tw_take p l]
theorem tw_mem {α : Type} (p : α → Bool) : ∀ (l : List α) (y : α), y ∈ l.takeWhile p → p y = true
  | [], y, h => by simp at h
  | z :: l, y, h => by
    rw [List.takeWhile_cons] at h
    cases hz : p z with
    | false => rw [hz] at h; simp at h
    | true =>
      rw [hz] at h
      simp only [if_true] at h
      rcases List.mem_cons.1 h with rfl | h
      · exact hz
      · exact tw_mem p l y h
theorem mod_same {α : Type} {l : List α} {k : Nat} {x : α} (f : α → α) (h : l[k]? = some x) : (l.modify k f)[k]? = some (f x) := by
  rw [List.getElem?_modify, h]
  simp
theorem mod_other {α : Type} {l : List α} {k i : Nat} (f : α → α) (h : ¬ k = i) : (l.modify k f)[i]? = l[i]? := by
  rw [List.getElem?_modify]
  cases l[i]? <;> simp [h]
theorem take_plc (l : List En) (t : Int) : l.take (plcOf l t) = l.takeWhile (fun x => decide (x.tag < t)) := tw_take _ l
theorem drop_plc (l : List En) (t : Int) : l.drop (plcOf l t) = l.dropWhile (fun x => decide (x.tag < t)) := by
  have h1 := List.takeWhile_append_dropWhile (p := fun x : En => decide (x.tag < t)) (l := l)
  have h2 := List.take_append_drop (plcOf l t) l
  rw [take_plc] at h2
  exact List.append_cancel_left (h2.trans h1.symm)
theorem mem_insB {l : List En} {x y : En} : y ∈ insB l x ↔ y = x ∨ y ∈ l := by
  unfold insB
  constructor
  · intro h
    rcases List.mem_append.1 h with h | h
    · exact Or.inr (List.mem_of_mem_take h)
    · rcases List.mem_cons.1 h with h | h
      · exact Or.inl h
      · exact Or.inr (List.mem_of_mem_drop h)
  · rintro (rfl | h)
    · exact List.mem_append_right _ (List.mem_cons_self ..)
    · rw [← List.take_append_drop (plcOf l x.tag) l] at h
      rcases List.mem_append.1 h with h | h
      · exact List.mem_append_left _ h
      · exact List.mem_append_right _ (List.mem_cons_of_mem _ h)
/-- What is known of a tag that was given. -/
structure Given (l : List En) (v : Int) : Prop where
  reg : isReg (asgL l v) = true
  none : ownOf l (asgT l v) = -1
  now : ownOf (asgL l v) (asgT l v) = v
  free : resv (asgT l v) = false
  len : (asgL l v).length = l.length + 1
  ret : retOk (asgL l v) (asgT l v) = true
  gone : decide (asgT l v ∈ liveOf (retL (asgL l v) (asgT l v))) = false
  next : ∀ u, asgOk (retL (asgL l v) (asgT l v)) u = true → (asgT (retL (asgL l v) (asgT l v)) u == asgT l v) = false
  kept : ∀ (j : Nat) (y : En), l[j]? = some y → ownOf (asgL l v) y.tag = y.vend
theorem given {l : List En} {v : Int} (h : asgOk l v = true) : Given l v := by
  obtain ⟨hr, hv, hl⟩ := asg_parts h
  obtain ⟨hT, hL⟩ := asg_yes h
  obtain ⟨hf0, hf1, _⟩ := free_spec hl
  have hvb := inB_iff.1 hv
  have hs := sasc_pw.1 (isReg_sasc hr)
  have hok := regFrom_ok l 0 (by omega) (isReg_parts hr).2
  unfold tkn at hf0
  rw [Bool.or_eq_false_iff] at hf0
  have hnot : ∀ y ∈ l, y.tag ≠ (freeT l : Int) := fun y hy e => by
    have := List.any_eq_false.1 hf0.2 y hy
    simp [e] at this
  obtain ⟨F, hF⟩ : ∃ F : Int, (freeT l : Int) = F := ⟨_, rfl⟩
  have hF0 : 0 ≤ F := by omega
  have hF1 : F ≤ 12 := by omega
  rw [hF] at hT hL hf0 hnot
  have hxok : okE ⟨F, v, false⟩ := ⟨⟨hF0, by show F ≤ 255; omega⟩, hf0.1, hvb⟩
  have hlen : (asgL l v).length = l.length + 1 := by rw [hL, insB_len]
  have hpw : (insB l ⟨F, v, false⟩).Pairwise fun x y => x.tag < y.tag := by
    unfold insB
    rw [List.pairwise_append, List.pairwise_cons]
    have hlo : ∀ y ∈ l.take (plcOf l F), y.tag < F := fun y hy => by
      rw [take_plc] at hy
      have := tw_mem _ l y hy
      simpa using this
    have hhi : ∀ y ∈ l.drop (plcOf l F), F < y.tag := fun y hy => by
      have hm := List.mem_of_mem_drop hy
      rw [drop_plc] at hy
      have h1 := dw_ge F l hs y hy
      have h2 := hnot y hm
      omega
    refine ⟨hs.sublist (List.take_sublist _ _), ⟨hhi, hs.sublist (List.drop_sublist _ _)⟩, fun a ha b hb => ?_⟩
    have h1 := hlo a ha
    rcases List.mem_cons.1 hb with rfl | hb
    · exact h1
    · have := hhi b hb; omega
  have hreg : isReg (asgL l v) = true := by
    rw [hL]
    refine isReg_of (by rw [insB_len]; omega) (fun y hy => ?_) hpw
    rcases mem_insB.1 hy with rfl | hy
    · exact hxok
    · exact hok y hy
  have hsasc : Sasc (asgL l v) := isReg_sasc hreg
  have hmem : (⟨F, v, false⟩ : En) ∈ asgL l v := by rw [hL]; exact mem_insB.2 (Or.inl rfl)
  obtain ⟨k, hk, hke⟩ := List.getElem_of_mem hmem
  have hkx : (asgL l v)[k]? = some ⟨F, v, false⟩ := by rw [List.getElem?_eq_getElem hk, hke]
  have hhit : hitOf (asgL l v) F = some k := hit_some hkx rfl rfl fun p y hy hp hc => by
    have h1 : y.tag < F := hsasc p k y _ hy hkx hp
    have h2 := hc.1
    omega
  obtain ⟨q1, q2⟩ := ret_some hreg hhit
  have hY : ∀ (i : Nat) (z : En), (retL (asgL l v) F)[i]? = some z → z.tag = F → z.old = true ∧ i = k := by
    intro i z hz ht
    rw [q1] at hz
    by_cases e : k = i
    · subst e
      rw [mod_same _ hkx] at hz
      rw [← Option.some.inj hz]
      exact ⟨rfl, rfl⟩
    · have hz' : (asgL l v)[i]? = some z := by rw [mod_other _ e] at hz; exact hz
      exfalso
      rcases Nat.lt_or_gt_of_ne e with h1 | h1
      · have h2 := hsasc k i _ z hkx hz' h1
        have h3 : F < z.tag := h2
        omega
      · have h2 := hsasc i k z _ hz' hkx h1
        have h3 : z.tag < F := h2
        omega
  have hYk : ∃ z ∈ retL (asgL l v) F, z.tag = F := by
    refine ⟨⟨F, v, true⟩, ?_, rfl⟩
    refine List.mem_of_getElem? (i := k) ?_
    rw [q1, mod_same _ hkx]
  refine ⟨hreg, ?_, ?_, ?_, hlen, ?_, ?_, ?_, ?_⟩
  · rw [hT]
    unfold ownOf
    rw [List.find?_eq_none.2 (fun y hy => by simpa using hnot y hy)]
  · rw [hT]
    exact own_mem hsasc hmem
  · rw [hT]; exact hf0.1
  · rw [hT]; exact q2
  · rw [hT]
    apply decide_eq_false
    intro hm
    unfold liveOf at hm
    obtain ⟨z, hz, ht⟩ := List.mem_map.1 hm
    obtain ⟨hz1, hz2⟩ := List.mem_filter.1 hz
    obtain ⟨i, hi, e⟩ := List.getElem_of_mem hz1
    have := (hY i z (by rw [List.getElem?_eq_getElem hi, e]) ht).1
    rw [this] at hz2
    cases hz2
  · intro u hu
    rw [hT] at hu ⊢
    obtain ⟨hr2, _, hl2⟩ := asg_parts hu
    rw [(asg_yes hu).1]
    have hfs := (free_spec hl2).1
    unfold tkn at hfs
    rw [Bool.or_eq_false_iff] at hfs
    obtain ⟨z, hz, ht⟩ := hYk
    have := List.any_eq_false.1 hfs.2 z hz
    rw [ht] at this
    cases hh : ((freeT (retL (asgL l v) F) : Int) == F) with
    | false => rfl
    | true =>
      have e := eq_of_beq hh
      rw [e] at this
      simp at this
  · intro j y hy
    exact own_mem hsasc (by rw [hL]; exact mem_insB.2 (Or.inr (List.mem_of_getElem? hy)))
/-- What is known of a tag that clashes. -/
theorem clash_in {l : List En} {v : Int} {T : List Int} {j : Nat} {x : Int} (h : (clashOf l v T)[j]? = some x) : decide (x ∈ T) = true ∧ (resv x = false → (ownOf l x == v) = false) := by
  have hm := List.mem_of_getElem? h
  unfold clashOf at hm
  obtain ⟨h1, h2⟩ := List.mem_filter.1 hm
  refine ⟨decide_eq_true h1, fun hr => ?_⟩
  unfold isClash at h2
  rw [hr, Bool.false_or, Bool.and_eq_true] at h2
  cases hh : (ownOf l x == v) with
  | false => rfl
  | true => rw [hh] at h2; exact absurd h2.2 (by simp)
end Go.Proofs.Ytjmabidahofbbaa
