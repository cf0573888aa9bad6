/- The model's ParseInt reads exactly the numerals of the integers from 0 to 1000000000000. Condition: the text is of a length that Go can hold. -/
import Derived.Test.YteicmmfgliokdaaRows
import Derived.Test.YteicmmfgliokdaaFmt
namespace Go.Proofs.Yteicmmfgliokdaa
open Go.ChangeShapes Go.WideShapes Go.ChangeAt Go.RowKit Go.Lib
set_option linter.unusedVariables false

theorem take_snoc (s : ByteArray) (k : Nat) (h : k < s.size) : s.data.toList.take (k + 1) = s.data.toList.take k ++ [s[k]] := by
  rw [List.take_succ_eq_append_getElem (by simpa using h)]; rfl
theorem allDig_take (l : List UInt8) (k : Nat) (h : allDig l = true) : allDig (l.take k) = true := by
  unfold allDig at *
  rw [List.all_eq_true] at *
  intro x hx
  exact h x (List.mem_of_mem_take hx)
theorem not_allDig (l : List UInt8) (k : Nat) (h : allDig (l.take k) = false) : allDig l = false := by
  cases hl : allDig l with
  | false => rfl
  | true => rw [allDig_take l k hl] at h; cases h
theorem num_bound (l : List UInt8) (k : Nat) (hk : k ≤ 13) (h : allDig (l.take k) = true) : numOf (l.take k) < 10 ^ k := by
  have h1 := numOf_lt _ h
  have h2 : (l.take k).length ≤ k := List.length_take_le _ _
  exact Nat.lt_of_lt_of_le h1 (Nat.pow_le_pow_right (by omega) h2)

theorem ret2 {a b : Int} {x y : Bool} (h : a = b) (k : x = y) : Ending.returned (.tuple #[.int .i64 a, .bool x]) = Ending.returned (.tuple #[.int .i64 b, .bool y]) := by rw [h, k]
theorem l1In_yes (n l h : Int) (h1 : l ≤ n) (h2 : n ≤ h) (w : World) :
    Calls Try.prog 22 #[.int .i64 n, .int .i64 l, .int .i64 h] w fun e w' => e = .returned (.bool true) ∧ w = w' := by
  go_enter Try.func22, Try.ntmps22; go_wp2; go_ret; exact ⟨rfl, rfl⟩
theorem l1In_no (n l h : Int) (h1 : ¬ (l ≤ n ∧ n ≤ h)) (w : World) :
    Calls Try.prog 22 #[.int .i64 n, .int .i64 l, .int .i64 h] w fun e w' => e = .returned (.bool false) ∧ w = w' := by
  by_cases h2 : l ≤ n
  · have h3 : ¬ n ≤ h := fun h3 => h1 ⟨h2, h3⟩
    go_enter Try.func22, Try.ntmps22; go_wp2; go_ret; exact ⟨rfl, rfl⟩
  · clear h1
    go_enter Try.func22, Try.ntmps22; go_wp2; go_ret; exact ⟨rfl, rfl⟩

set_option maxRecDepth 100000 in
theorem specParse_len (s : ByteArray) (hs : s.size ≤ 9223372036854775807) (h : ¬ (1 ≤ s.size ∧ s.size ≤ 13)) (w : World) :
    Calls Try.prog 10 #[.string s] w fun e w' => e = .returned (.tuple #[.int .i64 0, .bool false]) ∧ Below w.heap.size w w' := by
  go_enter Try.func10, Try.ntmps10
  go_wp2_with (go_at_call 22; refine (l1In_no _ _ _ (by omega) _).mono ?_; rintro e w' ⟨rfl, rfl⟩)
  go_ret2
  exact ⟨rfl, Below.refl _ _⟩

set_option maxRecDepth 100000 in
theorem specParse_in (s : ByteArray) (h1 : 1 ≤ s.size) (h2 : s.size ≤ 13) (w : World) :
    Calls Try.prog 10 #[.string s] w fun e w' => e = .returned (.tuple #[.int .i64 (parseN s.data.toList), .bool (parseB s.data.toList)]) ∧ Below w.heap.size w w' := by
  have hll : s.data.toList.length = s.size := by simp
  go_enter Try.func10, Try.ntmps10
  go_wp2_with (go_at_call 22; refine (l1In_yes _ _ _ (by omega) (by omega) _).mono ?_; rintro e w' ⟨rfl, rfl⟩)
  go_loop [4, 5] (fun n i => ∃ k : Nat, k ≤ s.size ∧ i = .int .i64 k ∧ n = .int .i64 (numOf (s.data.toList.take k)) ∧ allDig (s.data.toList.take k) = true) (fun _ i => s.size - (intOf i).toNat)
  case atStart => exact ⟨0, Nat.zero_le _, rfl, rfl, rfl⟩
  case round =>
    obtain ⟨k, hk, rfl, rfl, hd⟩ := hrel
    have hb := num_bound s.data.toList k (by omega) hd
    by_cases hlt : k < s.size
    · have hp : 10 ^ k ≤ 10 ^ 12 := Nat.pow_le_pow_right (by omega) (by omega)
      have hb' : numOf (s.data.toList.take k) < 1000000000000 := by omega
      have hts := take_snoc s k hlt
      have hnx : numOf (s.data.toList.take (k + 1)) = 10 * numOf (s.data.toList.take k) + (s[k].toNat - 48) := by rw [hts, numOf_snoc]
      have hdx : allDig (s.data.toList.take (k + 1)) = isDig s[k] := by rw [hts, allDig_snoc, hd, Bool.true_and]
      clear hts hp hb
      generalize hN : numOf (s.data.toList.take k) = N at *
      by_cases hg : 48 ≤ s[k].toNat ∧ s[k].toNat ≤ 57
      · rw [(isDig_iff _).2 hg] at hdx
        obtain ⟨hg1, hg2⟩ := hg
        have HN := Lib.hid hnx
        have HD := Lib.hid hdx
        clear hnx hdx hN hd hll
        go_wp2_with (go_at_call 22; refine (l1In_yes _ _ _ (by omega) (by omega) _).mono ?_; rintro e w' ⟨rfl, rfl⟩)
        go_round
        case rel => exact ⟨k + 1, by omega, by go_num, by rw [HN.out]; go_num, HD.out⟩
        case measure => simp [intOf]; omega
      · have hdf : isDig s[k] = false := by
          cases hi : isDig s[k] with
          | false => rfl
          | true => exact absurd ((isDig_iff _).1 hi) hg
        rw [hdf] at hdx
        have HP := Lib.hid (parse_no (parses_dig (not_allDig _ _ hdx)))
        clear hnx hdx hN hd hll hdf
        have h255 : s[k].toNat < 256 := s[k].toNat_lt
        rcases (show s[k].toNat < 48 ∨ 57 < s[k].toNat by omega) with hg | hg
        all_goals
          go_wp2_with (go_at_call 22; refine (l1In_no _ _ _ (by omega) _).mono ?_; rintro e w' ⟨rfl, rfl⟩)
          go_ret2
          exact ⟨ret2 HP.out.2.symm HP.out.1.symm, Below.refl _ _⟩
    · obtain rfl : k = s.size := by omega
      rw [List.take_of_length_le (by omega)] at hd hb
      rw [List.take_of_length_le (l := s.data.toList) (by omega)]
      generalize hN : numOf s.data.toList = N at *
      have hb' : N < 10000000000000 := Nat.lt_of_lt_of_le hb (Nat.le_trans (Nat.pow_le_pow_right (by omega) h2) (by decide))
      clear hb
      by_cases hbig : N ≤ 1000000000000
      · have HP : Hid (parses s.data.toList = decide (itoa (N : Int) = s.data.toList)) := by
          rw [← hN]
          exact parses_itoa_iff _ (by omega) (by omega) hd (by omega)
        have HN := Lib.hid hN
        clear hd hll hN
        go_wp2_with (go_at_call 23; refine (specFmt_any N (by omega) (by omega) _).mono ?_; rintro e w' ⟨rfl, hb1⟩)
        · go_ret2
          have hne : ¬ itoa (N : Int) = s.data.toList := by
            have h : 1000000000000 < (N : Int) ∨ (!itoa (N : Int) == s.toList) = true := by assumption
            rcases h with h | h
            · omega
            · rw [ByteArray.toList_eq] at h
              simpa using h
          have hp : parses s.data.toList = false := by rw [HP.out]; simpa using hne
          exact ⟨ret2 (parse_no hp).2.symm (parse_no hp).1.symm, hb1⟩
        · go_ret2
          have hne : itoa (N : Int) = s.data.toList := by
            have h : (N : Int) ≤ 1000000000000 ∧ (!itoa (N : Int) == s.toList) = false := by assumption
            have h2 := h.2
            rw [ByteArray.toList_eq] at h2
            simpa using h2
          have hp : parses s.data.toList = true := by rw [HP.out]; simpa using hne
          exact ⟨ret2 (by rw [(parse_yes hp).2, HN.out]) (parse_yes hp).1.symm, hb1⟩
      · have HP := Lib.hid (parse_no (parses_big (l := s.data.toList) (by omega)))
        clear hN hd hll
        go_wp2
        go_ret2
        exact ⟨ret2 HP.out.2.symm HP.out.1.symm, Below.refl _ _⟩
end Go.Proofs.Yteicmmfgliokdaa
