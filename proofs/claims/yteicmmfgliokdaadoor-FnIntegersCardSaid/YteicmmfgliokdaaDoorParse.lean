/- The program's ParseInt reads exactly the numerals of the integers from 0 to 1000000000000. Condition: the text is of a length that Go can hold. -/
import Derived.Test.YteicmmfgliokdaaDoorParse0
namespace Go.Proofs.YteicmmfgliokdaaDoor
open Go.ChangeShapes Go.WideShapes Go.ChangeAt Go.RowKit Go.Lib
set_option linter.unusedVariables false

set_option maxRecDepth 100000 in
theorem parse_len (s : ByteArray) (hs : s.size ≤ 9223372036854775807) (h : ¬ (1 ≤ s.size ∧ s.size ≤ 13)) (w : World) :
    Calls Tryd.prog 7 #[.string s] w fun e w' => e = .returned (.tuple #[.int .i64 0, .bool false]) ∧ w = w' := by
  go_enter Tryd.func7, Tryd.ntmps7
  go_wp2_with (go_at_call 18; refine (inRange_no _ _ _ (by omega) _).mono ?_; rintro e w' ⟨rfl, rfl⟩)
  go_ret2
  exact ⟨rfl, rfl⟩

theorem headD_get (s : ByteArray) (h : 0 < s.size) : s.data.toList.headD 0 = s[0] := by
  have h2 : 0 < s.data.toList.length := by simpa using h
  cases hl : s.data.toList with
  | nil => rw [hl] at h2; simp at h2
  | cons a r =>
    have : s.data.toList[0] = s[0] := by rfl
    rw [← this]
    simp [hl]

/-- Behind k digits the text is not refused for its head. -/
def headOk (l : List UInt8) (k : Nat) : Prop := 1 ≤ k → plainHead l = true

set_option maxRecDepth 100000 in
set_option maxHeartbeats 1000000 in
theorem parse_in (s : ByteArray) (h1 : 1 ≤ s.size) (h2 : s.size ≤ 13) (w : World) :
    Calls Tryd.prog 7 #[.string s] w fun e w' => e = .returned (.tuple #[.int .i64 (parseN s.data.toList), .bool (parseB s.data.toList)]) ∧ w = w' := by
  have hll : s.data.toList.length = s.size := by simp
  go_enter Tryd.func7, Tryd.ntmps7
  go_wp2_with (go_at_call 18; refine (inRange_yes _ _ _ (by omega) (by omega) _).mono ?_; rintro e w' ⟨rfl, rfl⟩)
  go_loop [4, 12] (fun n i => ∃ k : Nat, k ≤ s.size ∧ i = .int .i64 k ∧ n = .int .i64 (numOf (s.data.toList.take k)) ∧ allDig (s.data.toList.take k) = true ∧ headOk s.data.toList k) (fun _ i => s.size - (intOf i).toNat)
  case atStart => exact ⟨0, Nat.zero_le _, rfl, rfl, rfl, fun h => absurd h (by omega)⟩
  case round =>
    obtain ⟨k, hk, rfl, rfl, hd, ho⟩ := hrel
    have HO := Lib.hid ho
    clear ho
    have hb := num_bound s.data.toList k (by omega) hd
    by_cases hlt : k < s.size
    · have hp : 10 ^ k ≤ 10 ^ 12 := Nat.pow_le_pow_right (by omega) (by omega)
      have hb' : numOf (s.data.toList.take k) < 1000000000000 := by omega
      have hts := take_snoc s k hlt
      have hnx : numOf (s.data.toList.take (k + 1)) = 10 * numOf (s.data.toList.take k) + (s[k].toNat - 48) := by rw [hts, numOf_snoc]
      have hdx : allDig (s.data.toList.take (k + 1)) = isDig s[k] := by rw [hts, allDig_snoc, hd, Bool.true_and]
      have h255 : s[k].toNat < 256 := s[k].toNat_lt
      have hh : k = 0 → s.data.toList.headD 0 = s[k] := by
        intro e
        subst e
        exact headD_get s (by omega)
      have HH := Lib.hid hh
      clear hts hp hb hh
      generalize hN : numOf (s.data.toList.take k) = N at *
      by_cases hg : 48 ≤ s[k].toNat ∧ s[k].toNat ≤ 57
      · rw [(isDig_iff _).2 hg] at hdx
        have HN := Lib.hid hnx
        have HD := Lib.hid hdx
        clear hnx hdx hN hd hll
        by_cases hz : s[k].toNat = 48
        · by_cases hk0 : k = 0
          · subst hk0
            by_cases hs1 : 1 < s.size
            · have hpf : plainHead s.data.toList = false := by
                unfold plainHead
                rw [HH.out rfl]
                have e48 : s[0] = 48 := UInt8.toNat_inj.1 (by rw [hz]; rfl)
                have hne : ¬ s.data.toList.length = 1 := by simp only [Array.length_toList]; show ¬ s.size = 1; omega
                rw [e48]
                simp only [hne]
                simp
              have HP := Lib.hid (parse_no (parses_head hpf))
              clear hpf hg
              go_wp2
              go_ret2
              exact ⟨ret2 HP.out.2.symm HP.out.1.symm, rfl⟩
            · have ho' : Hid (headOk s.data.toList (0 + 1)) := by
                intro _
                unfold plainHead
                have he : s.data.toList.length = 1 := by simp only [Array.length_toList]; show s.size = 1; omega
                simp only [he]
                simp
              have HE := Lib.hid hz
              clear hg
              go_wp2
              go_round
              case rel => exact ⟨0 + 1, by omega, by go_num, by rw [HN.out, HE.out]; go_num, HD.out, ho'.out⟩
              case measure => simp [intOf]; omega
          · have ho' : Hid (headOk s.data.toList (k + 1)) := fun _ => HO.out (by omega)
            have hk1 : ((k : Int) == 0) = false := by simp; omega
            have HE := Lib.hid hz
            clear hg
            go_wp2
            go_round
            case rel => exact ⟨k + 1, by omega, by go_num, by rw [HN.out, HE.out]; go_num, HD.out, ho'.out⟩
            case measure => simp [intOf]; omega
        · have ho' : Hid (headOk s.data.toList (k + 1)) := by
            intro _
            by_cases hk0 : k = 0
            · unfold plainHead
              rw [HH.out hk0]
              have : (s[k] == 48) = false := by
                rw [beq_eq_false_iff_ne]
                intro e
                exact hz (by rw [e]; rfl)
              rw [this]; simp
            · exact HO.out (by omega)
          rcases (show s[k].toNat = 49 ∨ s[k].toNat = 50 ∨ s[k].toNat = 51 ∨ s[k].toNat = 52 ∨ s[k].toNat = 53 ∨ s[k].toNat = 54 ∨ s[k].toNat = 55 ∨ s[k].toNat = 56 ∨ s[k].toNat = 57 by omega) with e | e | e | e | e | e | e | e | e
          all_goals
            have HE := Lib.hid e
            clear hg hz
            go_wp2
            go_round
            case rel => exact ⟨k + 1, by omega, by go_num, by rw [HN.out, HE.out]; go_num, HD.out, ho'.out⟩
            case measure => simp [intOf]; omega
      · have hdf : isDig s[k] = false := by
          cases hi : isDig s[k] with
          | false => rfl
          | true => exact absurd ((isDig_iff _).1 hi) hg
        rw [hdf] at hdx
        have HP := Lib.hid (parse_no (parses_dig (not_allDig _ _ hdx)))
        clear hnx hdx hN hd hll hdf
        rcases (show s[k].toNat < 48 ∨ 57 < s[k].toNat by omega) with hg | hg
        all_goals
          go_wp2
          go_ret2
          exact ⟨ret2 HP.out.2.symm HP.out.1.symm, rfl⟩
    · obtain rfl : k = s.size := by omega
      rw [List.take_of_length_le (by omega)] at hd hb
      rw [List.take_of_length_le (l := s.data.toList) (by omega)]
      have hpl := HO.out h1
      generalize hN : numOf s.data.toList = N at *
      have hb' : N < 10000000000000 := Nat.lt_of_lt_of_le hb (Nat.le_trans (Nat.pow_le_pow_right (by omega) h2) (by decide))
      clear hb
      by_cases hbig : N ≤ 1000000000000
      · have HP := Lib.hid (parse_yes (parses_mk (l := s.data.toList) (by omega) (by omega) hd hpl (by omega)))
        have HN := Lib.hid hN
        clear hd hll hN hpl
        go_wp2
        go_ret2
        exact ⟨ret2 (by rw [HP.out.2, HN.out]) HP.out.1.symm, rfl⟩
      · have HP := Lib.hid (parse_no (parses_big (l := s.data.toList) (by omega)))
        clear hN hd hll hpl
        go_wp2
        go_ret2
        exact ⟨ret2 HP.out.2.symm HP.out.1.symm, rfl⟩

/-- The contract, at every text. -/
theorem parse_any (s : ByteArray) (hs : s.size ≤ 9223372036854775807) (w : World) :
    Calls Tryd.prog 7 #[.string s] w fun e w' => e = .returned (.tuple #[.int .i64 (parseN s.data.toList), .bool (parseB s.data.toList)]) ∧ w = w' := by
  by_cases h : 1 ≤ s.size ∧ s.size ≤ 13
  · exact parse_in s h.1 h.2 w
  · have hp := parse_no (parses_len (l := s.data.toList) (by simpa using h))
    rw [hp.1, hp.2]
    exact parse_len s hs h w
end Go.Proofs.YteicmmfgliokdaaDoor
