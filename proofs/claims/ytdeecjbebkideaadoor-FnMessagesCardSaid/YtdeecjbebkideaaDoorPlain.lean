/- Plain mathematics of decimal numerals: a list of digits without a leading zero is the numeral of its number, and the other way round. No condition beyond those written in each statement. -/
import Derived.Lib.ItoaMem
namespace Go.Proofs.YtdeecjbebkideaaDoor
open Go.Lib

/-- A decimal digit. -/
def isDig (c : UInt8) : Bool := decide (48 ≤ c.toNat) && decide (c.toNat ≤ 57)
theorem isDig_iff (c : UInt8) : isDig c = true ↔ 48 ≤ c.toNat ∧ c.toNat ≤ 57 := by unfold isDig; simp
/-- The number that a list of digits stands for. -/
def numOf (l : List UInt8) : Nat := l.foldl (fun n c => 10 * n + (c.toNat - 48)) 0
theorem numOf_snoc (l : List UInt8) (c : UInt8) : numOf (l ++ [c]) = 10 * numOf l + (c.toNat - 48) := by unfold numOf; rw [List.foldl_append]; rfl
theorem numOf_nil : numOf [] = 0 := rfl
def allDig (l : List UInt8) : Bool := l.all isDig
theorem allDig_snoc (l : List UInt8) (c : UInt8) : allDig (l ++ [c]) = (allDig l && isDig c) := by unfold allDig; simp

theorem snoc_ind {P : List UInt8 → Prop} (h0 : P []) (h1 : ∀ l c, P l → P (l ++ [c])) (l : List UInt8) : P l := by
  have : ∀ r : List UInt8, P r.reverse := by
    intro r
    induction r with
    | nil => exact h0
    | cons c r ih => rw [List.reverse_cons]; exact h1 _ _ ih
  have h := this l.reverse
  rwa [List.reverse_reverse] at h

theorem numOf_lt (l : List UInt8) (h : allDig l = true) : numOf l < 10 ^ l.length := by
  induction l using snoc_ind with
  | h0 => simp [numOf]
  | h1 l c ih =>
    rw [allDig_snoc, Bool.and_eq_true, isDig_iff] at h
    rw [numOf_snoc, List.length_append, List.length_singleton, Nat.pow_succ]
    have := ih h.1
    omega

/-- No leading zero, unless the list is one digit. -/
def plainHead (l : List UInt8) : Bool := decide (l.length = 1) || !(l.headD 0 == 48)

theorem numOf_pos (l : List UInt8) (h : allDig l = true) (hn : l ≠ []) (hz : (l.headD 0 == 48) = false) : 1 ≤ numOf l := by
  induction l using snoc_ind with
  | h0 => exact absurd rfl hn
  | h1 l c ih =>
    rw [allDig_snoc, Bool.and_eq_true, isDig_iff] at h
    rw [numOf_snoc]
    by_cases hl : l = []
    · subst hl
      simp at hz
      have : c.toNat ≠ 48 := fun e => hz (UInt8.toNat_inj.1 (by rw [e]; rfl))
      omega
    · have hh : (l ++ [c]).headD 0 = l.headD 0 := by cases l with | nil => exact absurd rfl hl | cons a r => rfl
      rw [hh] at hz
      have := ih h.1 hl hz
      omega

theorem dec_of_num (l : List UInt8) (h : allDig l = true) (hn : l ≠ []) (hp : plainHead l = true) : decDigits (numOf l) = l := by
  induction l using snoc_ind with
  | h0 => exact absurd rfl hn
  | h1 l c ih =>
    rw [allDig_snoc, Bool.and_eq_true, isDig_iff] at h
    by_cases hl : l = []
    · subst hl
      rw [numOf_snoc, numOf_nil, decDigits_one (by omega)]
      have : UInt8.ofNat (48 + (10 * 0 + (c.toNat - 48))) = c := by
        apply UInt8.toNat_inj.1
        simp
        omega
      rw [this]; rfl
    · have hh : (l ++ [c]).headD 0 = l.headD 0 := by cases l with | nil => exact absurd rfl hl | cons a r => rfl
      have hlen : (l ++ [c]).length ≠ 1 := by
        rw [List.length_append, List.length_singleton]
        have : l.length ≠ 0 := fun e => hl (List.length_eq_zero_iff.1 e)
        omega
      unfold plainHead at hp
      rw [hh] at hp
      simp only [hlen, decide_false, Bool.false_or, Bool.not_eq_true'] at hp
      have hpos := numOf_pos l h.1 hl hp
      have hd := ih h.1 hl (by unfold plainHead; rw [hp]; simp)
      rw [numOf_snoc, decDigits, dif_neg (by omega), show (10 * numOf l + (c.toNat - 48)) / 10 = numOf l by omega, hd]
      congr 2
      apply UInt8.toNat_inj.1
      simp
      omega

theorem dec_all (u : Nat) : allDig (decDigits u) = true := by
  induction u using Nat.strongRecOn with
  | _ u ih =>
    by_cases h : u < 10
    · rw [decDigits_one h]
      unfold allDig
      simp only [List.all_cons, List.all_nil, Bool.and_true, isDig_iff]
      simp
      omega
    · rw [decDigits, dif_neg h, allDig_snoc, ih (u / 10) (by omega), Bool.true_and, isDig_iff]
      simp
      omega
theorem dec_ne_nil (u : Nat) : decDigits u ≠ [] := by
  intro h
  have := decDigits_length u
  rw [h] at this
  have := nDigits_pos u
  simp at *
  omega
theorem dec_head (u : Nat) (h : 1 ≤ u) : ((decDigits u).headD 0 == 48) = false := by
  induction u using Nat.strongRecOn with
  | _ u ih =>
    by_cases h1 : u < 10
    · rw [decDigits_one h1]
      simp only [List.headD_cons, beq_eq_false_iff_ne, ne_eq]
      intro e
      have := congrArg UInt8.toNat e
      simp at this
      omega
    · rw [decDigits, dif_neg h1]
      have hn := dec_ne_nil (u / 10)
      have := ih (u / 10) (by omega) (by omega)
      cases hd : decDigits (u / 10) with
      | nil => exact absurd hd hn
      | cons a r => rw [hd] at this; exact this
theorem dec_plain (u : Nat) : plainHead (decDigits u) = true := by
  unfold plainHead
  by_cases h : u < 10
  · rw [decDigits_one h]; simp
  · rw [dec_head u (by omega)]; simp
theorem num_of_dec (u : Nat) : numOf (decDigits u) = u := by
  induction u using Nat.strongRecOn with
  | _ u ih =>
    by_cases h : u < 10
    · rw [decDigits_one h]
      unfold numOf
      simp
      omega
    · rw [decDigits, dif_neg h, numOf_snoc, ih (u / 10) (by omega)]
      simp
      omega

/-- What a text of an integer is read as. -/
def parses (l : List UInt8) : Bool := decide (1 ≤ l.length) && decide (l.length ≤ 13) && allDig l && plainHead l && decide (numOf l ≤ 1000000000000)
def parseB (l : List UInt8) : Bool := parses l
def parseN (l : List UInt8) : Int := if parses l then (numOf l : Int) else 0
theorem parse_yes {l : List UInt8} (h : parses l = true) : parseB l = true ∧ parseN l = (numOf l : Int) := ⟨h, if_pos h⟩
theorem parse_no {l : List UInt8} (h : parses l = false) : parseB l = false ∧ parseN l = 0 := ⟨h, by unfold parseN; rw [h]; rfl⟩
theorem parses_mk {l : List UInt8} (h1 : 1 ≤ l.length) (h2 : l.length ≤ 13) (h3 : allDig l = true) (h4 : plainHead l = true) (h5 : numOf l ≤ 1000000000000) : parses l = true := by
  unfold parses; simp [h1, h2, h3, h4, h5]
theorem parses_len {l : List UInt8} (h : ¬ (1 ≤ l.length ∧ l.length ≤ 13)) : parses l = false := by
  unfold parses
  by_cases h1 : 1 ≤ l.length
  · have : ¬ l.length ≤ 13 := fun h2 => h ⟨h1, h2⟩
    simp [this]
  · simp [h1]
theorem parses_dig {l : List UInt8} (h : allDig l = false) : parses l = false := by unfold parses; simp [h]
theorem parses_head {l : List UInt8} (h : plainHead l = false) : parses l = false := by unfold parses; simp [h]
theorem parses_big {l : List UInt8} (h : 1000000000000 < numOf l) : parses l = false := by
  unfold parses
  have : ¬ numOf l ≤ 1000000000000 := by omega
  simp [this]
/-- A text that is read is the numeral of its number; and the numeral of a number in range is read. -/
theorem itoa_of_parses {l : List UInt8} (h : parses l = true) : itoa (numOf l : Int) = l := by
  unfold parses at h
  simp only [Bool.and_eq_true, decide_eq_true_eq] at h
  obtain ⟨⟨⟨⟨h1, h2⟩, h3⟩, h4⟩, h5⟩ := h
  rw [itoa_nonneg]
  exact dec_of_num l h3 (fun e => by rw [e] at h1; simp at h1) h4
theorem parses_itoa_iff (l : List UInt8) (h1 : 1 ≤ l.length) (h2 : l.length ≤ 13) (h3 : allDig l = true) (h5 : numOf l ≤ 1000000000000) : parses l = decide (itoa (numOf l : Int) = l) := by
  by_cases h4 : plainHead l = true
  · rw [parses_mk h1 h2 h3 h4 h5, itoa_of_parses (parses_mk h1 h2 h3 h4 h5)]; simp
  · rw [parses_head (by simpa using h4)]
    have : itoa (numOf l : Int) ≠ l := by
      intro e
      rw [itoa_nonneg] at e
      exact h4 (by rw [← e]; exact dec_plain _)
    simp [this]
end Go.Proofs.YtdeecjbebkideaaDoor
