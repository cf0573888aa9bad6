/- Tags that clash: by the program. -/
import Derived.Test.YtjmabidahofbbaaOwr
import Derived.Test.YtjmabidahofbbaaLv
namespace Go.Proofs.Ytjmabidahofbbaa
open Go.ChangeShapes Go.WideShapes Go.ChangeAt Go.RowKit Go.Sort
set_option linter.unusedVariables false

set_option maxHeartbeats 2000000 in
set_option maxRecDepth 100000 in
theorem clashOf_any {a b : Option Addr} {n c k e : Nat} {l : List En} {T : List Int} {v : Int} {w : World} (h : Ens w a n l) (h' : Nums .i64 w b k T) (hn : n ≤ 1048576000) (hk : k ≤ 1048576000) :
    Calls Try.prog 31 #[.slice a n c, .slice b k e, .int .i64 v] w (Made .i64 3 w.heap.size (clashOf l v T) w) := by
  have hcall := ownersIn_any (c := c) h hn
  have HT0 := Lib.hid h'
  have hln := Lib.hid h'.len
  clear h h'
  obtain ⟨i0, hi, hz0, hz1, hz2⟩ := info_parts infoIntS
  have HI := Lib.hid (And.intro hi (And.intro hz0 (And.intro hz1 hz2)))
  clear hi hz0 hz1 hz2
  go_enter Try.func31, Try.ntmps31
  go_wp2_with fail
  refine hcall.mono ?_
  rintro e w1 ⟨fv, rfl, how, hb⟩
  have hsz0 := hb.size
  obtain ⟨p, a', n', c', l', rfl, h1, h2, h3, h4, h5, h6⟩ := how
  have HW : Hid (Owner l w1 w.heap.size (.func (.func 94) #[] #[.pointer (some ⟨p, 0, none⟩)])) := ⟨p, a', n', c', l', rfl, h1, h2, h3, h4, h5, h6⟩
  have HB1 := Lib.hid hb
  have HT : Hid (Nums .i64 w1 b k T) := Lib.hid (HT0.out.same hb)
  clear h1 h2 h3 h4 h5 h6 hb hcall HT0
  have HO : Hid (Own .i64 3 (w1.alloc (.cells #[] 3)) w1.heap.size (some ⟨w1.heap.size, 0, none⟩) 0 0 (clashOf l v (T.take 0))) := Lib.hid (by rw [List.take_zero]; exact Own.empty (Nat.le_refl _))
  have HB : Hid (Below w1.heap.size w1 (w1.alloc (.cells #[] 3))) := Lib.hid (alloc_same _ _)
  go_wp2_with fail
  go_loopw [8, 10, 11, 17] (fun s x u i wr => ∃ (j m : Nat) (q : Option Addr) (d : Nat), j ≤ k ∧ m ≤ j ∧ i = .int .i64 j ∧ s = .slice q m d ∧ Own .i64 3 wr w1.heap.size q m d (clashOf l v (T.take j)) ∧ Below w1.heap.size w1 wr) (fun _ _ _ i _ => k - (intOf i).toNat)
  case atStart => exact ⟨0, 0, _, _, Nat.zero_le _, Nat.le_refl _, rfl, rfl, HO.out, HB.out⟩
  case round =>
    obtain ⟨j, m, q, d, hj, hm, rfl, rfl, hown, hb⟩ := hrel
    have HO2 := Lib.hid hown
    have HB2 := Lib.hid hb
    clear hown hb
    by_cases hlt : j < k
    · obtain ⟨ad, x, rfl, hx, hc⟩ := (HT.out.same HB2.out).at_ hlt
      have HX := Lib.hid (clashOf_step l v hx)
      have hsz := HB2.out.size
      have h1 := owner_says x (HW.out.same HB2.out)
      have h2 := isReserved_any x
      clear hx
      obtain ⟨o, hov⟩ : ∃ o, ownOf l x = o := ⟨_, rfl⟩
      obtain ⟨r, hr⟩ : ∃ r, resv x = r := ⟨_, rfl⟩
      rw [hov] at h1
      rw [hr] at h2
      have HC : Hid (isClash l v x = (r || (decide (0 ≤ o) && !(o == v)))) := Lib.hid (by unfold isClash; rw [hov, hr])
      clear hov hr
      go_wp2_with fail
      refine h1.mono ?_
      rintro e w2 ⟨rfl, hb2⟩
      have HO4 : Hid (Own .i64 3 w2 w1.heap.size q m d (clashOf l v (T.take j))) := Lib.hid (HO2.out.same hb2)
      have HB4 : Hid (Below w1.heap.size w1 w2) := Lib.hid (HB2.out.trans (hb2.mono HB2.out.size))
      have hsz4 := HB4.out.size
      clear hb2 h1 hc
      by_cases ho0 : 0 ≤ o
      · have ho1 : decide (0 ≤ o) = true := decide_eq_true ho0
        by_cases hoe : o = v
        · have e1 : (o == v) = true := by simp [hoe]
          have e2 : (o != v) = false := by simp [hoe]
          have HOE := Lib.hid hoe
          have HC2 : Hid (isClash l v x = r) := Lib.hid (by rw [HC.out, e1]; simp)
          clear hoe
          cases r with
          | true =>
            go_wp2_with (first | (go_at_call 26; refine (h2 _).mono ?_; rintro e w' ⟨rfl, rfl⟩) | (at_builtin; refine wpl_app _ rfl (.tmp 35) (.tmp 37) 29 rfl .i64 3 i0 (.int .i64 0) 8 Try.underlying29 HI.out.1 HI.out.2.1 HI.out.2.2.1 HI.out.2.2.2 rfl rfl (HO4.out.alloc _) rfl (nums_new _ _ _ _) (by omega) ?c1 ?c2 ?_))
            case c1 => omega
            case c2 => simp; omega
            intro a3 c3 w3 ho3 hb3
            have HO3 : Hid (Own .i64 3 w3 w1.heap.size a3 (m + 1) c3 (clashOf l v (T.take (j + 1)))) := Lib.hid (by rw [HX.out, HC2.out, if_pos rfl]; exact ho3)
            have HB3 : Hid (Below w1.heap.size w1 w3) := Lib.hid (HB4.out.trans (((alloc_same _ _).mono hsz4).trans hb3))
            clear ho3 hb3
            go_wp2_with fail
            go_roundw
            case rel => exact ⟨j + 1, m + 1, a3, c3, by omega, by omega, by go_num, rfl, HO3.out, HB3.out⟩
            case measure => simp [intOf]; omega
          | false =>
            go_wp2_with (go_at_call 26; refine (h2 _).mono ?_; rintro e w' ⟨rfl, rfl⟩)
            go_roundw
            case rel => exact ⟨j + 1, m, q, d, by omega, by omega, by go_num, rfl, by rw [HX.out, HC2.out, if_neg (by simp)]; exact HO4.out, HB4.out⟩
            case measure => simp [intOf]; omega
        · have e1 : (o == v) = false := by simp [hoe]
          have e2 : (o != v) = true := by simp [hoe]
          have HC2 : Hid (isClash l v x = true) := Lib.hid (by rw [HC.out, e1, ho1]; simp)
          clear hoe
          cases r with
          | true =>
            go_wp2_with (first | (go_at_call 26; refine (h2 _).mono ?_; rintro e w' ⟨rfl, rfl⟩) | (at_builtin; refine wpl_app _ rfl (.tmp 35) (.tmp 37) 29 rfl .i64 3 i0 (.int .i64 0) 8 Try.underlying29 HI.out.1 HI.out.2.1 HI.out.2.2.1 HI.out.2.2.2 rfl rfl (HO4.out.alloc _) rfl (nums_new _ _ _ _) (by omega) ?c1 ?c2 ?_))
            case c1 => omega
            case c2 => simp; omega
            intro a3 c3 w3 ho3 hb3
            have HO3 : Hid (Own .i64 3 w3 w1.heap.size a3 (m + 1) c3 (clashOf l v (T.take (j + 1)))) := Lib.hid (by rw [HX.out, HC2.out, if_pos rfl]; exact ho3)
            have HB3 : Hid (Below w1.heap.size w1 w3) := Lib.hid (HB4.out.trans (((alloc_same _ _).mono hsz4).trans hb3))
            clear ho3 hb3
            go_wp2_with fail
            go_roundw
            case rel => exact ⟨j + 1, m + 1, a3, c3, by omega, by omega, by go_num, rfl, HO3.out, HB3.out⟩
            case measure => simp [intOf]; omega
          | false =>
            go_wp2_with (first | (go_at_call 26; refine (h2 _).mono ?_; rintro e w' ⟨rfl, rfl⟩) | (at_builtin; refine wpl_app _ rfl (.tmp 35) (.tmp 37) 29 rfl .i64 3 i0 (.int .i64 0) 8 Try.underlying29 HI.out.1 HI.out.2.1 HI.out.2.2.1 HI.out.2.2.2 rfl rfl (HO4.out.alloc _) rfl (nums_new _ _ _ _) (by omega) ?c1 ?c2 ?_))
            case c1 => omega
            case c2 => simp; omega
            intro a3 c3 w3 ho3 hb3
            have HO3 : Hid (Own .i64 3 w3 w1.heap.size a3 (m + 1) c3 (clashOf l v (T.take (j + 1)))) := Lib.hid (by rw [HX.out, HC2.out, if_pos rfl]; exact ho3)
            have HB3 : Hid (Below w1.heap.size w1 w3) := Lib.hid (HB4.out.trans (((alloc_same _ _).mono hsz4).trans hb3))
            clear ho3 hb3
            go_wp2_with fail
            go_roundw
            case rel => exact ⟨j + 1, m + 1, a3, c3, by omega, by omega, by go_num, rfl, HO3.out, HB3.out⟩
            case measure => simp [intOf]; omega
      · have ho1 : decide (0 ≤ o) = false := decide_eq_false ho0
        have HC2 : Hid (isClash l v x = r) := Lib.hid (by rw [HC.out, ho1]; simp)
        have ho2 : o < 0 := by omega
        cases r with
        | true =>
          go_wp2_with (first | (go_at_call 26; refine (h2 _).mono ?_; rintro e w' ⟨rfl, rfl⟩) | (at_builtin; refine wpl_app _ rfl (.tmp 35) (.tmp 37) 29 rfl .i64 3 i0 (.int .i64 0) 8 Try.underlying29 HI.out.1 HI.out.2.1 HI.out.2.2.1 HI.out.2.2.2 rfl rfl (HO4.out.alloc _) rfl (nums_new _ _ _ _) (by omega) ?c1 ?c2 ?_))
          case c1 => omega
          case c2 => simp; omega
          intro a3 c3 w3 ho3 hb3
          have HO3 : Hid (Own .i64 3 w3 w1.heap.size a3 (m + 1) c3 (clashOf l v (T.take (j + 1)))) := Lib.hid (by rw [HX.out, HC2.out, if_pos rfl]; exact ho3)
          have HB3 : Hid (Below w1.heap.size w1 w3) := Lib.hid (HB4.out.trans (((alloc_same _ _).mono hsz4).trans hb3))
          clear ho3 hb3
          go_wp2_with fail
          go_roundw
          case rel => exact ⟨j + 1, m + 1, a3, c3, by omega, by omega, by go_num, rfl, HO3.out, HB3.out⟩
          case measure => simp [intOf]; omega
        | false =>
          go_wp2_with (go_at_call 26; refine (h2 _).mono ?_; rintro e w' ⟨rfl, rfl⟩)
          go_roundw
          case rel => exact ⟨j + 1, m, q, d, by omega, by omega, by go_num, rfl, by rw [HX.out, HC2.out, if_neg (by simp)]; exact HO4.out, HB4.out⟩
          case measure => simp [intOf]; omega
    · obtain rfl : j = k := by omega
      go_wp2
      go_ret
      have h1 := HO2.out
      rw [List.take_of_length_le (by rw [hln.out]; omega)] at h1
      exact ⟨_, _, _, rfl, h1.lower hsz0, HB1.out.trans (HB2.out.mono hsz0)⟩
end Go.Proofs.Ytjmabidahofbbaa
