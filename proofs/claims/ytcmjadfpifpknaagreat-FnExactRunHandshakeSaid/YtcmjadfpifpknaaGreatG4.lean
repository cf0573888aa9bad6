/- Whether a list of values is a message of a format: by the program. The bytes of messages: how they are written and read, and that the two belong together. No function of the program is spoken of. Whether a field is there: by the model. Whether a value fits a field: by the model. -/
import Derived.Test.YtcmjadfpifpknaaGreatG2
import Derived.Test.YtcmjadfpifpknaaGreatG3
import Derived.Deep.RegionHeld3
namespace Go.Proofs.YtcmjadfpifpknaaGreat
open Go.ChangeShapes Go.WideShapes Go.ChangeAt Go.RowKit
set_option linter.unusedVariables false
set_option linter.unusedSimpArgs false

/-- The value is empty. -/
def emptyV (k : Int) (y : List Int) : Bool := decide (k = 0) && decide (y = [])
/-- A field's value is as it must be: it fits if the field is there, and else is empty. -/
def fitsAt (x : Fd) (t : Bool) (k : Int) (y : List Int) : Bool := if t = true then fitsField x k y else emptyV k y
/-- The first j values are as they must be. -/
def fitsTo (l : List Fd) (v : List Vl) (j : Nat) : Prop := ∀ (i : Nat) (x : Fd) (y : Vl), i < j → l[i]? = some x → v[i]? = some y → fitsAt x (isThere l v i) y.num y.items = true
noncomputable def fitsFmt (l : List Fd) (v : List Vl) : Bool := isFmt l && (decide (v.length = l.length) && @decide (fitsTo l v l.length) (Classical.propDecidable _))
theorem fitsTo_zero (l : List Fd) (v : List Vl) : fitsTo l v 0 := fun i x y h => absurd h (by omega)
theorem fitsTo_step {l : List Fd} {v : List Vl} {j : Nat} {x : Fd} {y : Vl} (h : fitsTo l v j) (hx : l[j]? = some x) (hy : v[j]? = some y) (hf : fitsAt x (isThere l v j) y.num y.items = true) : fitsTo l v (j + 1) := by
  intro i x' y' hi hx' hy'
  by_cases e : i = j
  · subst e
    rw [hx] at hx'
    rw [hy] at hy'
    cases hx'
    cases hy'
    exact hf
  · exact h i x' y' (by omega) hx' hy'
theorem fitsFmt_notFmt {l : List Fd} {v : List Vl} (h : isFmt l = false) : fitsFmt l v = false := by unfold fitsFmt; rw [h]; rfl
theorem fitsFmt_len {l : List Fd} {v : List Vl} (h : v.length ≠ l.length) : fitsFmt l v = false := by unfold fitsFmt; rw [decide_eq_false h]; simp
theorem fitsFmt_no {l : List Fd} {v : List Vl} {j : Nat} {x : Fd} {y : Vl} (hx : l[j]? = some x) (hy : v[j]? = some y) (hf : fitsAt x (isThere l v j) y.num y.items = false) : fitsFmt l v = false := by
  have hn : ¬ fitsTo l v l.length := fun h => by
    have := h j x y (lt_of_some hx) hx hy
    rw [hf] at this
    cases this
  unfold fitsFmt
  rw [@decide_eq_false _ (Classical.propDecidable _) hn]
  simp
theorem fitsFmt_yes {l : List Fd} {v : List Vl} (h : isFmt l = true) (hl : v.length = l.length) (ht : fitsTo l v l.length) : fitsFmt l v = true := by
  unfold fitsFmt
  rw [h, decide_eq_true hl, @decide_eq_true _ (Classical.propDecidable _) ht]
  rfl
theorem fitsAt_there {x : Fd} {k : Int} {y : List Int} {t : Bool} (ht : t = true) : fitsAt x t k y = fitsField x k y := by unfold fitsAt; rw [if_pos ht]
theorem fitsAt_not {x : Fd} {k : Int} {y : List Int} {t : Bool} (ht : t = false) : fitsAt x t k y = emptyV k y := by unfold fitsAt; rw [if_neg (by rw [ht]; decide)]
end Go.Proofs.YtcmjadfpifpknaaGreat
namespace Go.Proofs.YtcmjadfpifpknaaGreat
open Go.ChangeShapes Go.WideShapes Go.ChangeAt Go.RowKit
set_option linter.unusedVariables false

/-- The bytes of the value of a field that is there. -/
def codeV (x : Fd) (y : Vl) : List Int := if x.kind = 1 then [y.num] else (y.items.length : Int) :: y.items
/-- The bytes of field j. -/
def codeAt (l : List Fd) (v : List Vl) (j : Nat) : List Int :=
  match l[j]?, v[j]? with
  | some x, some y => if isThere l v j = true then codeV x y else []
  | _, _ => []
/-- The bytes of the first j fields. -/
def codeTo (l : List Fd) (v : List Vl) : Nat → List Int
  | 0 => []
  | j + 1 => codeTo l v j ++ codeAt l v j
theorem codeAt_yes {l : List Fd} {v : List Vl} {j : Nat} {x : Fd} {y : Vl} (hx : l[j]? = some x) (hy : v[j]? = some y) (h : isThere l v j = true) : codeAt l v j = codeV x y := by unfold codeAt; rw [hx, hy]; exact if_pos h
theorem codeAt_no {l : List Fd} {v : List Vl} {j : Nat} (h : isThere l v j = false) : codeAt l v j = [] := by
  unfold codeAt
  split
  · rw [h]; rfl
  · rfl
theorem codeTo_yes {l : List Fd} {v : List Vl} {j : Nat} {x : Fd} {y : Vl} (hx : l[j]? = some x) (hy : v[j]? = some y) (h : isThere l v j = true) : codeTo l v (j + 1) = codeTo l v j ++ codeV x y := by rw [codeTo, codeAt_yes hx hy h]
theorem codeTo_no {l : List Fd} {v : List Vl} {j : Nat} (h : isThere l v j = false) : codeTo l v (j + 1) = codeTo l v j := by rw [codeTo, codeAt_no h, List.append_nil]

/-- A field's value read from b at place k, and the place behind it. -/
def rdF (x : Fd) (b : List Int) (k : Nat) : Option (Vl × Nat) :=
  match b[k]? with
  | none => none
  | some z =>
    if x.kind = 1 then (if fitsField x z [] = true then some (⟨z, []⟩, k + 1) else none)
    else if 0 ≤ z ∧ z ≤ (b.length : Int) - k - 1 then (if fitsField x 0 ((b.drop (k + 1)).take z.toNat) = true then some (⟨0, (b.drop (k + 1)).take z.toNat⟩, k + 1 + z.toNat) else none)
    else none
/-- One field more: read, or not there. -/
def rdStep (l : List Fd) (b : List Int) (j : Nat) (s : List Vl × Nat) : Option (List Vl × Nat) :=
  match l[j]? with
  | none => none
  | some x => if isThere l s.1 j = true then (rdF x b s.2).map fun p => (s.1 ++ [p.1], p.2) else some (s.1 ++ [⟨0, []⟩], s.2)
/-- The first j fields are read. -/
def rdTo (l : List Fd) (b : List Int) : Nat → Option (List Vl × Nat)
  | 0 => some ([], 0)
  | j + 1 => (rdTo l b j).bind (rdStep l b j)
/-- The message that b begins with, and how many bytes it has. -/
noncomputable def rdP (l : List Fd) (b : List Int) : Option (List Vl × Nat) := if isFmt l = true then rdTo l b l.length else none

theorem rdStep_not {l : List Fd} {b : List Int} {j : Nat} {x : Fd} {v : List Vl} {k : Nat} (hx : l[j]? = some x) (h : isThere l v j = false) : rdStep l b j (v, k) = some (v ++ [⟨0, []⟩], k) := by unfold rdStep; rw [hx]; dsimp only; rw [h]; rfl
theorem rdStep_there {l : List Fd} {b : List Int} {j : Nat} {x : Fd} {v : List Vl} {k : Nat} (hx : l[j]? = some x) (h : isThere l v j = true) : rdStep l b j (v, k) = (rdF x b k).map fun p => (v ++ [p.1], p.2) := by unfold rdStep; rw [hx]; dsimp only; rw [h]; rfl
theorem rdTo_step {l : List Fd} {b : List Int} {j : Nat} {s : List Vl × Nat} (h : rdTo l b j = some s) : rdTo l b (j + 1) = rdStep l b j s := by rw [rdTo, h]; rfl
theorem rdTo_stop {l : List Fd} {b : List Int} {j : Nat} (h : rdTo l b j = none) : ∀ q, j ≤ q → rdTo l b q = none := by
  intro q hq
  induction q with
  | zero => obtain rfl : j = 0 := by omega
            exact h
  | succ q ih =>
    rcases Nat.eq_or_lt_of_le hq with e | e
    · rw [← e]; exact h
    · rw [rdTo, ih (by omega)]; rfl
theorem rdP_stop {l : List Fd} {b : List Int} {j : Nat} (h : rdTo l b j = none) (hj : j ≤ l.length) : rdP l b = none := by
  unfold rdP
  rw [rdTo_stop h _ hj]
  split <;> rfl
theorem rdP_not {l : List Fd} {b : List Int} (h : isFmt l = false) : rdP l b = none := by unfold rdP; rw [h]; rfl
theorem rdP_all {l : List Fd} {b : List Int} {s : List Vl × Nat} (hf : isFmt l = true) (h : rdTo l b l.length = some s) : rdP l b = some s := by unfold rdP; rw [hf, h]; rfl

/-- Whether a field is there depends on what comes before it alone. -/
theorem isThere_part {l : List Fd} {v v' : List Vl} {j : Nat} {x : Fd} (hx : l[j]? = some x) (hok : condOk (l.take j) x = true) (hv : ∀ q, q < j → v[q]? = v'[q]?) : isThere l v j = isThere l v' j := by
  by_cases h1 : x.cond = -1
  · rw [isThere_always hx h1, isThere_always hx h1]
  · unfold condOk at hok
    rw [if_neg h1, Bool.and_eq_true, decide_eq_true_eq] at hok
    have hlen := lt_of_some hx
    have h2 := hok.1
    rw [List.length_take] at h2
    obtain ⟨q, hq⟩ : ∃ q : Nat, x.cond = q := ⟨x.cond.toNat, by omega⟩
    have hqj : q < j := by omega
    have e := hv q hqj
    cases hy : v[q]? with
    | none =>
      rw [hy] at e
      have n1 := List.getElem?_eq_none_iff.1 hy
      have n2 := List.getElem?_eq_none_iff.1 e.symm
      rw [isThere_far hx h1 (by omega), isThere_far hx h1 (by omega)]
    | some y =>
      rw [hy] at e
      rw [isThere_when hx hq hy, isThere_when hx hq e.symm]
theorem okTo_cond {l : List Fd} {n j : Nat} {x : Fd} (h : okTo l n) (hj : j < n) (hx : l[j]? = some x) : condOk (l.take j) x = true := by
  have := h j x hj hx
  unfold fieldOk at this
  rw [Bool.and_eq_true] at this
  exact this.2
theorem codeAt_part {l : List Fd} {v v' : List Vl} {n j : Nat} (hok : okTo l n) (hj : j < n) (hv : ∀ q, q ≤ j → v[q]? = v'[q]?) : codeAt l v j = codeAt l v' j := by
  unfold codeAt
  rw [hv j (Nat.le_refl _)]
  cases hx : l[j]? with
  | none => rfl
  | some x => rw [isThere_part hx (okTo_cond hok hj hx) fun q hq => hv q (by omega)]
theorem codeTo_part {l : List Fd} {v v' : List Vl} {n : Nat} (hok : okTo l n) : ∀ j, j ≤ n → (∀ q, q < j → v[q]? = v'[q]?) → codeTo l v j = codeTo l v' j
  | 0, _, _ => rfl
  | j + 1, hj, hv => by rw [codeTo, codeTo, codeTo_part hok j (by omega) (fun q hq => hv q (by omega)), codeAt_part hok (by omega) fun q hq => hv q (by omega)]
theorem fitsTo_part {l : List Fd} {v v' : List Vl} {n j : Nat} (hok : okTo l n) (hj : j ≤ n) (hv : ∀ q, q < j → v[q]? = v'[q]?) (h : fitsTo l v j) : fitsTo l v' j := by
  intro i x y hi hx hy
  rw [← isThere_part hx (okTo_cond hok (by omega) hx) fun q hq => hv q (by omega)]
  exact h i x y hi hx (by rw [hv i hi]; exact hy)

/-- What is written of a value is read. -/
theorem rdF_code {x : Fd} {y : Vl} (h : fitsField x y.num y.items = true) (p r : List Int) : rdF x (p ++ codeV x y ++ r) p.length = some (y, (p ++ codeV x y).length) := by
  obtain ⟨k, it⟩ := y
  dsimp only at h
  unfold codeV
  by_cases h1 : x.kind = 1
  · rw [if_pos h1]
    have e : (p ++ [k] ++ r)[p.length]? = some k := by simp
    have h0 : it = [] := by
      unfold fitsField at h
      rw [if_pos h1, Bool.and_eq_true, decide_eq_true_eq, decide_eq_true_eq] at h
      exact List.eq_nil_of_length_eq_zero h.2
    subst h0
    unfold rdF
    dsimp only
    rw [e]
    dsimp only
    rw [if_pos h1, if_pos h]
    simp
  · rw [if_neg h1]
    have e : (p ++ (it.length : Int) :: it ++ r)[p.length]? = some (it.length : Int) := by simp
    have e2 : ((p ++ (it.length : Int) :: it ++ r).drop (p.length + 1)).take it.length = it := by
      rw [show p ++ (it.length : Int) :: it ++ r = (p ++ [(it.length : Int)]) ++ (it ++ r) by simp, List.drop_left' (by simp), List.take_left' rfl]
    have h0 : k = 0 := by
      unfold fitsField at h
      rw [if_neg h1] at h
      split at h
      · rw [Bool.and_eq_true, decide_eq_true_eq] at h; exact h.1
      · split at h
        · rw [Bool.and_eq_true, decide_eq_true_eq] at h; exact h.1
        · cases h
    subst h0
    unfold rdF
    dsimp only
    rw [e]
    dsimp only
    rw [if_neg h1, if_pos ⟨by omega, by simp only [List.length_append, List.length_cons]; omega⟩, Int.toNat_natCast, e2, if_pos h]
    simp only [List.length_append, List.length_cons, Option.some.injEq, Prod.mk.injEq, true_and]
    omega
/-- What is read was written. -/
theorem rdF_form {x : Fd} {b : List Int} {k k' : Nat} {y : Vl} (h : rdF x b k = some (y, k')) : k ≤ k' ∧ k' ≤ b.length ∧ b.take k' = b.take k ++ codeV x y ∧ fitsField x y.num y.items = true := by
  unfold rdF at h
  cases hz : b[k]? with
  | none => rw [hz] at h; cases h
  | some z =>
    have hk := lt_of_some hz
    rw [hz] at h
    dsimp only at h
    unfold codeV
    by_cases h1 : x.kind = 1
    · rw [if_pos h1] at h ⊢
      split at h
      · cases h
        exact ⟨by omega, by omega, by rw [List.take_add_one, hz]; rfl, by assumption⟩
      · cases h
    · rw [if_neg h1] at h ⊢
      split at h
      · rename_i h2
        split at h
        · cases h
          have hl : ((b.drop (k + 1)).take z.toNat).length = z.toNat := by rw [List.length_take, List.length_drop]; omega
          refine ⟨by omega, by omega, ?_, by assumption⟩
          dsimp only
          rw [hl, show ((z.toNat : Nat) : Int) = z by omega, List.take_add, List.take_add_one, hz]
          simp
        · cases h
      · cases h
theorem rdTo_code {l : List Fd} {v : List Vl} (hok : okTo l l.length) (hl : v.length = l.length) (hf : fitsTo l v l.length) (b r : List Int) (hb : b = codeTo l v l.length ++ r) : ∀ j, j ≤ l.length → rdTo l b j = some (v.take j, (codeTo l v j).length)
  | 0, _ => by simp [rdTo, codeTo]
  | j + 1, hj => by
    obtain ⟨x, hx⟩ : ∃ x, l[j]? = some x := ⟨_, List.getElem?_eq_getElem (by omega)⟩
    obtain ⟨y, hy⟩ : ∃ y, v[j]? = some y := ⟨_, List.getElem?_eq_getElem (by omega)⟩
    have ht : isThere l (v.take j) j = isThere l v j := isThere_part hx (okTo_cond hok (by omega) hx) fun q hq => by rw [List.getElem?_take]; simp [hq]
    have hfit := hf j x y (by omega) hx hy
    rw [rdTo_step (rdTo_code hok hl hf b r hb j (by omega)), List.take_add_one, hy]
    cases hd : isThere l v j with
    | false =>
      rw [hd] at ht
      rw [rdStep_not hx ht, codeTo_no hd]
      have : y = ⟨0, []⟩ := by
        rw [fitsAt_not hd] at hfit
        unfold emptyV at hfit
        rw [Bool.and_eq_true, decide_eq_true_eq, decide_eq_true_eq] at hfit
        obtain ⟨k, it⟩ := y
        dsimp only at hfit
        rw [hfit.1, hfit.2]
      rw [this]
      rfl
    | true =>
      rw [hd] at ht
      rw [fitsAt_there hd] at hfit
      have hp : ∃ r', b = codeTo l v j ++ codeV x y ++ r' := by
        have hsp : ∀ q, j + 1 + q ≤ l.length → ∃ r', codeTo l v (j + 1 + q) = codeTo l v (j + 1) ++ r' := by
          intro q
          induction q with
          | zero => intro _; exact ⟨[], by simp⟩
          | succ q ih =>
            intro h
            obtain ⟨r', e⟩ := ih (by omega)
            exact ⟨r' ++ codeAt l v (j + 1 + q), by rw [← Nat.add_assoc, codeTo, e, List.append_assoc]⟩
        obtain ⟨r', e⟩ := hsp (l.length - (j + 1)) (by omega)
        rw [show j + 1 + (l.length - (j + 1)) = l.length by omega, codeTo_yes hx hy hd] at e
        exact ⟨r' ++ r, by rw [hb, e, List.append_assoc]⟩
      obtain ⟨r', e⟩ := hp
      rw [rdStep_there hx ht, e, rdF_code hfit, codeTo_yes hx hy hd]
      rfl
theorem rdTo_form {l : List Fd} {b : List Int} (hok : okTo l l.length) : ∀ j v k, j ≤ l.length → rdTo l b j = some (v, k) → v.length = j ∧ k ≤ b.length ∧ b.take k = codeTo l v j ∧ fitsTo l v j
  | 0, v, k, _, h => by
    cases h
    exact ⟨rfl, by omega, rfl, fitsTo_zero _ _⟩
  | j + 1, v, k, hj, h => by
    obtain ⟨x, hx⟩ : ∃ x, l[j]? = some x := ⟨_, List.getElem?_eq_getElem (by omega)⟩
    cases hs : rdTo l b j with
    | none => rw [rdTo, hs] at h; cases h
    | some s =>
      obtain ⟨v0, k0⟩ := s
      obtain ⟨h1, h2, h3, h4⟩ := rdTo_form hok j v0 k0 (by omega) hs
      rw [rdTo_step hs] at h
      have hag : ∀ (z : Vl) q, q < j → v0[q]? = (v0 ++ [z])[q]? := fun z q hq => by rw [List.getElem?_append_left (by omega)]
      have hlast : ∀ z : Vl, (v0 ++ [z])[j]? = some z := fun z => by rw [List.getElem?_append_right (by omega), h1, Nat.sub_self]; rfl
      have ht : ∀ z : Vl, isThere l (v0 ++ [z]) j = isThere l v0 j := fun z => (isThere_part hx (okTo_cond hok (by omega) hx) (hag z)).symm
      have hc : ∀ z : Vl, codeTo l (v0 ++ [z]) j = codeTo l v0 j := fun z => (codeTo_part hok j (by omega) (hag z)).symm
      have hf : ∀ z : Vl, fitsTo l (v0 ++ [z]) j := fun z => fitsTo_part hok (by omega) (hag z) h4
      cases hd : isThere l v0 j with
      | false =>
        rw [rdStep_not hx hd] at h
        cases h
        refine ⟨by rw [List.length_append, h1]; rfl, h2, by rw [codeTo_no (by rw [ht]; exact hd), hc]; exact h3, fitsTo_step (hf _) hx (hlast _) ?_⟩
        rw [fitsAt_not (by rw [ht]; exact hd)]
        rfl
      | true =>
        rw [rdStep_there hx hd] at h
        cases hr : rdF x b k0 with
        | none => rw [hr] at h; cases h
        | some p =>
          obtain ⟨y, k1⟩ := p
          rw [hr] at h
          cases h
          obtain ⟨q1, q2, q3, q4⟩ := rdF_form hr
          refine ⟨by rw [List.length_append, h1]; rfl, q2, by rw [codeTo_yes hx (hlast _) (by rw [ht]; exact hd), hc, q3, h3], fitsTo_step (hf _) hx (hlast _) ?_⟩
          rw [fitsAt_there (by rw [ht]; exact hd)]
          exact q4
theorem fitsFmt_parts {l : List Fd} {v : List Vl} (h : fitsFmt l v = true) : isFmt l = true ∧ v.length = l.length ∧ fitsTo l v l.length := by
  unfold fitsFmt at h
  rw [Bool.and_eq_true, Bool.and_eq_true, decide_eq_true_eq] at h
  exact ⟨h.1, h.2.1, @of_decide_eq_true _ (Classical.propDecidable _) h.2.2⟩
/-- The bytes of a message. -/
def codeOf (l : List Fd) (v : List Vl) : List Int := codeTo l v l.length
/-- A message is read as it was written, whatever follows. -/
theorem rdP_code {l : List Fd} {v : List Vl} (h : fitsFmt l v = true) (r : List Int) : rdP l (codeOf l v ++ r) = some (v, (codeOf l v).length) := by
  obtain ⟨h1, h2, h3⟩ := fitsFmt_parts h
  have := rdTo_code (isFmt_iff.1 h1).2 h2 h3 _ r rfl l.length (Nat.le_refl _)
  rw [List.take_of_length_le (by omega)] at this
  exact rdP_all h1 this
/-- What is read as a message was written. -/
theorem rdP_form {l : List Fd} {b : List Int} {v : List Vl} {k : Nat} (h : rdP l b = some (v, k)) : fitsFmt l v = true ∧ k ≤ b.length ∧ b.take k = codeOf l v := by
  cases hf : isFmt l with
  | false => rw [rdP_not hf] at h; cases h
  | true =>
    unfold rdP at h
    rw [if_pos hf] at h
    obtain ⟨h1, h2, h3, h4⟩ := rdTo_form (isFmt_iff.1 hf).2 l.length v k (Nat.le_refl _) h
    exact ⟨fitsFmt_yes hf h1 h4, h2, h3⟩
/-- The greatest number of bytes of a field. -/
def roomF (x : Fd) : Int := if x.kind = 1 then 1 else 1 + x.max
theorem roomF_num {x : Fd} (h : x.kind = 1) : roomF x = 1 := if_pos h
theorem roomF_more {x : Fd} (h : x.kind ≠ 1) : roomF x = 1 + x.max := if_neg h
/-- The greatest number of bytes of the first j fields. -/
def longTo (l : List Fd) : Nat → Int
  | 0 => 0
  | j + 1 => longTo l j + (l[j]?.elim 0 roomF)
theorem longTo_step {l : List Fd} {j : Nat} {x : Fd} (hx : l[j]? = some x) : longTo l (j + 1) = longTo l j + roomF x := by rw [longTo, hx]; rfl
noncomputable def longOf (l : List Fd) : Int := if isFmt l = true then longTo l l.length else 0
theorem codeV_len {x : Fd} {y : Vl} (h : fitsField x y.num y.items = true) : ((codeV x y).length : Int) ≤ roomF x := by
  unfold codeV
  by_cases h1 : x.kind = 1
  · rw [if_pos h1, roomF_num h1]
    simp
  · rw [if_neg h1, roomF_more h1]
    have : (y.items.length : Int) ≤ x.max := by
      unfold fitsField fitIts at h
      rw [if_neg h1] at h
      split at h
      · rw [Bool.and_eq_true, Bool.and_eq_true, decide_eq_true_eq, decide_eq_true_eq] at h; exact h.2.1
      · split at h
        · rw [Bool.and_eq_true, Bool.and_eq_true, decide_eq_true_eq, decide_eq_true_eq] at h; exact h.2.1
        · cases h
    simp only [List.length_cons]
    omega
theorem roomF_pos {x : Fd} (h : 1 ≤ x.max) : 0 ≤ roomF x := by
  by_cases h1 : x.kind = 1
  · rw [roomF_num h1]; omega
  · rw [roomF_more h1]; omega
theorem codeTo_long {l : List Fd} {v : List Vl} (hok : okTo l l.length) (hl : v.length = l.length) (hf : fitsTo l v l.length) : ∀ j, j ≤ l.length → ((codeTo l v j).length : Int) ≤ longTo l j
  | 0, _ => by simp [codeTo, longTo]
  | j + 1, hj => by
    obtain ⟨x, hx⟩ : ∃ x, l[j]? = some x := ⟨_, List.getElem?_eq_getElem (by omega)⟩
    obtain ⟨y, hy⟩ : ∃ y, v[j]? = some y := ⟨_, List.getElem?_eq_getElem (by omega)⟩
    have ih := codeTo_long hok hl hf j (by omega)
    have hmax : 1 ≤ x.max := by
      have := hok j x (by omega) hx
      unfold fieldOk at this
      rw [Bool.and_eq_true, decide_eq_true_eq] at this
      exact this.1.1
    have hfit := hf j x y (by omega) hx hy
    have hpos := roomF_pos hmax
    rw [longTo_step hx]
    cases hd : isThere l v j with
    | false =>
      rw [codeTo_no hd]
      omega
    | true =>
      rw [fitsAt_there hd] at hfit
      have := codeV_len hfit
      rw [codeTo_yes hx hy hd, List.length_append]
      omega
theorem codeOf_long {l : List Fd} {v : List Vl} (h : fitsFmt l v = true) : ((codeOf l v).length : Int) ≤ longOf l := by
  obtain ⟨h1, h2, h3⟩ := fitsFmt_parts h
  unfold longOf
  rw [if_pos h1]
  exact codeTo_long (isFmt_iff.1 h1).2 h2 h3 l.length (Nat.le_refl _)
end Go.Proofs.YtcmjadfpifpknaaGreat
namespace Go.Proofs.YtcmjadfpifpknaaGreat
open Go.ChangeShapes Go.WideShapes Go.ChangeAt Go.RowKit
set_option linter.unusedVariables false

theorem l1R_t {n l h : Int} {x : Bool} (e : decide (l ≤ n ∧ n ≤ h) = x) (w : World) :
    Calls Tryz.prog 99 #[.int .i64 n, .int .i64 l, .int .i64 h] w fun e w' => e = .returned (.bool x) ∧ w' = w := (l1R_any n l h w).mono fun e' w' ⟨h1, h2⟩ => ⟨by rw [h1, e], h2.symm⟩
end Go.Proofs.YtcmjadfpifpknaaGreat
namespace Go.Proofs.YtcmjadfpifpknaaGreat
open Go.ChangeShapes Go.WideShapes Go.ChangeAt Go.RowKit
set_option linter.unusedVariables false

theorem fits_items {x : Fd} {k : Int} {y : List Int} {g : Int} (h : (x.kind = 2 ∧ g = 255) ∨ (x.kind = 3 ∧ g = 99)) : fitsField x k y = (decide (k = 0) && (decide ((y.length : Int) ≤ x.max) && allIn y g)) := by
  unfold fitsField fitIts
  rcases h with ⟨h, rfl⟩ | ⟨h, rfl⟩
  · rw [if_neg (by omega), if_pos h]
  · rw [if_neg (by omega), if_neg (by omega), if_pos h]
end Go.Proofs.YtcmjadfpifpknaaGreat
