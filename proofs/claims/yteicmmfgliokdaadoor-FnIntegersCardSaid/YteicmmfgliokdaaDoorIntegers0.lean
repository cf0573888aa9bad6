/- What ParseInt answers at a numeral, and what the rounded quotient and the remainder satisfy. -/
import Derived.Test.YteicmmfgliokdaaDoorParse
import Derived.Test.YteicmmfgliokdaaDoorOne
import Derived.Test.YteicmmfgliokdaaDoorDraw3
import Derived.Test.YteicmmfgliokdaaDoorLaid
namespace Go.Proofs.YteicmmfgliokdaaDoor
open Go.ChangeShapes Go.WideShapes Go.ChangeAt Go.RowKit Go.Lib
set_option linter.unusedVariables false

theorem nDigits_le : ∀ (k u : Nat), 1 ≤ k → u < 10 ^ k → nDigits u ≤ k
  | 0, _, h, _ => absurd h (by omega)
  | 1, u, _, h => by rw [nDigits_small (by simpa using h)]; omega
  | k + 2, u, _, h => by
    by_cases h1 : u < 10
    · rw [nDigits_small h1]; omega
    · rw [nDigits_big h1]
      have := nDigits_le (k + 1) (u / 10) (by omega) (by rw [Nat.pow_succ] at h; omega)
      omega
theorem parses_itoa_yes (m : Int) (h0 : 0 ≤ m) (h1 : m ≤ 1000000000000) : parses (itoa m) = true ∧ (numOf (itoa m) : Int) = m := by
  obtain ⟨u, rfl⟩ : ∃ u : Nat, m = u := ⟨m.toNat, by omega⟩
  rw [itoa_nonneg, num_of_dec]
  have hl := decDigits_length u
  have h13 := nDigits_le 13 u (by omega) (by omega)
  have hp := nDigits_pos u
  exact ⟨parses_mk (by omega) (by omega) (dec_all u) (dec_plain u) (by rw [num_of_dec]; omega), rfl⟩
theorem parses_itoa_no (m : Int) (h : ¬ (0 ≤ m ∧ m ≤ 1000000000000)) : parses (itoa m) = false := by
  by_cases h0 : m < 0
  · obtain ⟨u, rfl⟩ : ∃ u : Nat, m = -(u : Int) := ⟨m.natAbs, by omega⟩
    rw [itoa_neg u (by omega)]
    exact parses_dig (by unfold allDig; simp [isDig])
  · obtain ⟨u, rfl⟩ : ∃ u : Nat, m = u := ⟨m.toNat, by omega⟩
    rw [itoa_nonneg]
    exact parses_big (by rw [num_of_dec]; omega)
theorem itoa_size (m : Int) (h : I64 m) : (⟨(itoa m).toArray⟩ : ByteArray).size ≤ 9223372036854775807 := by
  have := itoa_length_le m h.1 h.2
  show (itoa m).toArray.size ≤ _
  simp
  omega
theorem parse_itoa_yes (m : Int) (h : I64 m) (h0 : 0 ≤ m) (h1 : m ≤ 1000000000000) (w : World) :
    Calls Tryd.prog 7 #[.string ⟨(itoa m).toArray⟩] w fun e w' => e = .returned (.tuple #[.int .i64 m, .bool true]) ∧ w = w' := by
  have hp := parses_itoa_yes m h0 h1
  refine (parse_any ⟨(itoa m).toArray⟩ (itoa_size m h) w).mono ?_
  rintro e w' ⟨rfl, rfl⟩
  have hy := parse_yes hp.1
  refine ⟨?_, rfl⟩
  show Ending.returned (.tuple #[.int .i64 (parseN (itoa m)), .bool (parseB (itoa m))]) = _
  rw [hy.1, hy.2, hp.2]
theorem parse_itoa_no (m : Int) (h : I64 m) (h0 : ¬ (0 ≤ m ∧ m ≤ 1000000000000)) (w : World) :
    Calls Tryd.prog 7 #[.string ⟨(itoa m).toArray⟩] w fun e w' => e = .returned (.tuple #[.int .i64 0, .bool false]) ∧ w = w' := by
  have hp := parses_itoa_no m h0
  refine (parse_any ⟨(itoa m).toArray⟩ (itoa_size m h) w).mono ?_
  rintro e w' ⟨rfl, rfl⟩
  have hy := parse_no hp
  refine ⟨?_, rfl⟩
  show Ending.returned (.tuple #[.int .i64 (parseN (itoa m)), .bool (parseB (itoa m))]) = _
  rw [hy.1, hy.2]
/-- At any text: either it is the numeral of the number that is read, or 0 and false come back. -/
theorem parse_or (s : ByteArray) (hs : s.size ≤ 9223372036854775807) (w : World) :
    (∃ x : Int, I64 x ∧ itoa x = s.data.toList ∧ Calls Tryd.prog 7 #[.string s] w fun e w' => e = .returned (.tuple #[.int .i64 x, .bool true]) ∧ w = w') ∨
    (Calls Tryd.prog 7 #[.string s] w fun e w' => e = .returned (.tuple #[.int .i64 0, .bool false]) ∧ w = w') := by
  cases hp : parses s.data.toList with
  | true =>
    have hy := parse_yes hp
    have hn : numOf s.data.toList ≤ 1000000000000 := by unfold parses at hp; simp at hp; omega
    refine Or.inl ⟨numOf s.data.toList, ⟨by omega, by omega⟩, itoa_of_parses hp, (parse_any s hs w).mono ?_⟩
    rintro e w' ⟨rfl, rfl⟩
    exact ⟨by rw [hy.1, hy.2], rfl⟩
  | false =>
    have hy := parse_no hp
    refine Or.inr ((parse_any s hs w).mono ?_)
    rintro e w' ⟨rfl, rfl⟩
    exact ⟨by rw [hy.1, hy.2], rfl⟩

theorem ceil_facts (a b : Int) (h0 : 0 ≤ a) (h1 : 1 ≤ b) : a ≤ (a + b - 1) / b * b ∧ (a + b - 1) / b * b - a < b ∧ 0 ≤ (a + b - 1) / b := by
  have h2 := Int.emod_add_mul_ediv (a + b - 1) b
  have h3 := Int.emod_nonneg (a + b - 1) (show b ≠ 0 by omega)
  have h4 := Int.emod_lt_of_pos (a + b - 1) (show 0 < b by omega)
  have h5 : 0 ≤ (a + b - 1) / b := Int.ediv_nonneg (by omega) (by omega)
  rw [Int.mul_comm] at h2
  exact ⟨by omega, by omega, h5⟩
theorem mod_facts (a b : Int) (h1 : 1 ≤ b) : (a.tmod b - a % b).tmod b = 0 := by
  by_cases hn : a.tmod b < 0
  · rw [← tmod_neg_emod a b h1 hn, show a.tmod b - (a.tmod b + b) = -b by omega, Int.neg_tmod, Int.tmod_self]; rfl
  · rw [tmod_pos_emod a b h1 (by omega), Int.sub_self, Int.zero_tmod]
theorem ceil_val (a b q : Int) (hq : ceilOf a b = q) (w : World) :
    Calls Tryd.prog 11 #[.int .i64 a, .int .i64 b] w fun e w' => e = .returned (.int .i64 q) ∧ w = w' := by
  rw [← hq]; exact ceil_any a b w
theorem wf_i64' {n : Int} (h : I64 n) : (Lit.int .i64 n).wf = true := WalkArith.wf_i64 h
theorem mod_val (a b r : Int) (ha : I64 a) (hb : I64 b) (hr : modOf a b = r) (w : World) :
    Calls Tryd.prog 12 #[.int .i64 a, .int .i64 b] w fun e w' => e = .returned (.int .i64 r) ∧ w = w' := by
  rw [← hr]; exact mod_any a b (wf_i64' ha) (wf_i64' hb) w
/-- The five kinds of pairs. -/
theorem pairs (a b : Int) :
    ((b < 1 ∨ 1000000000000 < b) ∧ ceilOf a b = 0 ∧ modOf a b = 0) ∨
    (1 ≤ b ∧ b ≤ 1000000000000 ∧ (a < 0 ∨ 1000000000000 < a) ∧ ceilOf a b = 0 ∧ modOf a b = a % b) ∨
    (1 ≤ b ∧ b ≤ 1000000000000 ∧ 0 ≤ a ∧ a ≤ 1000000000000 ∧ ceilOf a b = (a + b - 1) / b ∧ modOf a b = a % b) := by
  unfold ceilOf modOf
  by_cases h1 : 1 ≤ b ∧ b ≤ 1000000000000
  · by_cases h2 : 0 ≤ a ∧ a ≤ 1000000000000
    · exact Or.inr (Or.inr ⟨h1.1, h1.2, h2.1, h2.2, if_pos (by omega), if_pos h1⟩)
    · exact Or.inr (Or.inl ⟨h1.1, h1.2, by omega, if_neg (by omega), if_pos h1⟩)
  · exact Or.inl ⟨by omega, if_neg (by omega), if_neg h1⟩
theorem ret_bool {a b : Bool} (h : a = b) : Ending.returned (.bool a) = .returned (.bool b) := by rw [h]
theorem big_any (a : Option Addr) (n c : Nat) (hn : (n : Int) ≤ 9223372036854775807) (h : ¬ 1048576 < n) (w : World) :
    Calls Tryd.prog 5 #[.slice a n c] w fun e w' => e = .returned (.bool false) ∧ w = w' := by
  go_enter Tryd.func5, Tryd.ntmps5
  go_wp2
  go_ret
  exact ⟨ret_bool (by simp; omega), rfl⟩
end Go.Proofs.YteicmmfgliokdaaDoor
