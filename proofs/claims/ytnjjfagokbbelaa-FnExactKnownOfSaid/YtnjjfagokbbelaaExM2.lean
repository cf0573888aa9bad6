/- Whether a list of extensions is valid, and its tags: by the model. -/
import Derived.Test.YtnjjfagokbbelaaExM1
import Derived.Test.YtnjjfagokbbelaaRfI
namespace Go.Proofs.Ytnjjfagokbbelaa
open Go.ChangeShapes Go.WideShapes Go.ChangeAt Go.RowKit
set_option linter.unusedVariables false
set_option linter.unusedSimpArgs false

theorem areX_twice {l : List Vl} {j : Nat} {x : Vl} (hx : l[j]? = some x) (h : (tagsX l).idxOf x.num < j) : areX l = false := by
  cases e : areX l with
  | false => rfl
  | true => exact absurd h (nodup_first.1 (areX_parts.1 e).2.2 j x.num (tags_at hx))
theorem areX_end {l : List Vl} (h : ∀ q x, l[q]? = some x → okX x = true ∧ ¬ (tagsX l).idxOf x.num < q) : areX l = decide (l.length ≤ 6) := by
  by_cases h6 : l.length ≤ 6
  · rw [decide_eq_true h6, areX_parts]
    refine ⟨h6, fun x hx => ?_, nodup_first.2 fun q z hz => ?_⟩
    · obtain ⟨q, hq⟩ := List.mem_iff_getElem?.1 hx
      exact (h q x hq).1
    · have hq : q < l.length := by
        have := (List.getElem?_eq_some_iff.1 hz).1
        rwa [tagsX_len] at this
      have e := tags_at (List.getElem?_eq_getElem hq)
      rw [hz] at e
      cases e
      exact (h q _ (List.getElem?_eq_getElem hq)).2
  · rw [decide_eq_false h6]
    exact areX_long (by omega)
set_option maxHeartbeats 4000000 in
set_option maxRecDepth 100000 in
theorem specAreExts_any {a : Option Addr} {n c : Nat} {l : List Vl} {w : World} (h : Vals w a n l) :
    Calls Try.prog 80 #[.slice a n c] w fun e w' => e = .returned (.bool (areX l)) ∧ w = w' := by
  have H := Lib.hid h
  have hln := Lib.hid h.len
  have hfit := h.fits
  clear h
  go_enter Try.func80, Try.ntmps80
  go_wp2_with fail
  go_loop [3] (fun i => ∃ j : Nat, j ≤ n ∧ i = .int .i64 j ∧ (∀ q x, q < j → l[q]? = some x → okX x = true ∧ ¬ (tagsX l).idxOf x.num < q)) (fun i => n - (intOf i).toNat)
  case atStart => exact ⟨0, Nat.zero_le _, rfl, fun q x hq => by omega⟩
  case round =>
    obtain ⟨j, hj, rfl, hok⟩ := hrel
    have HK := Lib.hid hok
    clear hok
    by_cases hlt : j < n
    · obtain ⟨b, o, p, m, e, k, y, rfl, hx, hc0, hc1, hN, hr⟩ := H.out.at_ hlt
      have hm := hN.len
      have hmf := hN.fits
      have HX := Lib.hid hx
      have KB := Lib.hid (fun w0 (hb : w = w0) => by subst hb; exact l9Byte_any (c := e) hN)
      have KE := Lib.hid (specExtOf_any (c := c) k H.out)
      rw [extOf_yes (tags_mem hx)] at KE
      by_cases hk : 0 ≤ k ∧ k ≤ 255
      · have KI := Lib.hid (fun w0 => l1R_t (decide_eq_true hk) w0)
        by_cases h4 : 4 < m
        · have HE : Hid (areX l = false) := Lib.hid (okX_stop HX.out (by
            unfold okX fitIts; dsimp only
            rw [decide_eq_false (show ¬ (y.length : Int) ≤ 4 by omega)]
            simp))
          clear hx hN hk hm KB KE
          go_wp2_with (go_at_call 98; refine (KI.out _).mono ?_; rintro e w' ⟨rfl, rfl⟩)
          go_ret
          exact ⟨by rw [HE.out]; rfl, rfl⟩
        · cases ha : allIn y 255 with
          | false =>
            have HE : Hid (areX l = false) := Lib.hid (okX_stop HX.out (by
              unfold okX fitIts; dsimp only
              rw [ha]
              simp))
            rw [ha] at KB
            clear hx hN hk hm KE ha
            go_wp2_with (first | (go_at_call 98; refine (KI.out _).mono ?_; rintro e w' ⟨rfl, rfl⟩) | (go_at_call 99; refine (KB.out _ rfl).mono ?_; rintro e w' ⟨rfl, rfl⟩))
            go_ret
            exact ⟨by rw [HE.out]; rfl, rfl⟩
          | true =>
            have HO : Hid (okX ⟨k, y⟩ = true) := Lib.hid (by
              unfold okX fitIts; dsimp only
              rw [ha, decide_eq_true hk, decide_eq_true (show (y.length : Int) ≤ 4 by omega)]
              rfl)
            rw [ha] at KB
            obtain ⟨r, hr2⟩ : ∃ r, r = (tagsX l).idxOf k := ⟨_, rfl⟩
            rw [← hr2] at KE
            by_cases hlo : r < j
            · have HE : Hid (areX l = false) := Lib.hid (areX_twice HX.out (by rw [← hr2]; exact hlo))
              clear hx hN hk hm ha hr2
              go_wp2_with (first | (go_at_call 98; refine (KI.out _).mono ?_; rintro e w' ⟨rfl, rfl⟩) | (go_at_call 99; refine (KB.out _ rfl).mono ?_; rintro e w' ⟨rfl, rfl⟩) | (go_at_call 81; refine KE.out.mono ?_; rintro e w' ⟨rfl, rfl⟩))
              go_ret
              exact ⟨by rw [HE.out]; rfl, rfl⟩
            · have HS : Hid (∀ q x, q < j + 1 → l[q]? = some x → okX x = true ∧ ¬ (tagsX l).idxOf x.num < q) := Lib.hid (fun q x hq hxq => by
                by_cases e : q = j
                · subst e
                  rw [HX.out] at hxq
                  cases hxq
                  exact ⟨HO.out, by rw [← hr2]; exact hlo⟩
                · exact HK.out q x (by omega) hxq)
              clear hx hN hk hm ha hr2
              go_wp2_with (first | (go_at_call 98; refine (KI.out _).mono ?_; rintro e w' ⟨rfl, rfl⟩) | (go_at_call 99; refine (KB.out _ rfl).mono ?_; rintro e w' ⟨rfl, rfl⟩) | (go_at_call 81; refine KE.out.mono ?_; rintro e w' ⟨rfl, rfl⟩))
              go_round
              case rel => exact ⟨j + 1, by omega, by go_num, HS.out⟩
              case measure => simp [intOf]; omega
      · have KI := Lib.hid (fun w0 => l1R_t (decide_eq_false hk) w0)
        have HE : Hid (areX l = false) := Lib.hid (okX_stop HX.out (by unfold okX; dsimp only; rw [decide_eq_false hk]; rfl))
        clear hx hN hk hm KB KE
        go_wp2_with (go_at_call 98; refine (KI.out _).mono ?_; rintro e w' ⟨rfl, rfl⟩)
        go_ret
        exact ⟨by rw [HE.out]; rfl, rfl⟩
    · obtain rfl : j = n := by omega
      have HE : Hid (areX l = decide ((j : Int) ≤ 6)) := Lib.hid (by
        rw [areX_end (fun q x hx => HK.out q x (by have := lt_of_some hx; rw [hln.out] at this; exact this) hx), hln.out]
        by_cases h : j ≤ 6
        · rw [decide_eq_true h, decide_eq_true (by omega)]
        · rw [decide_eq_false h, decide_eq_false (by omega)])
      go_wp2_with fail
      go_ret
      exact ⟨by rw [HE.out]; rfl, rfl⟩
set_option maxHeartbeats 2000000 in
set_option maxRecDepth 100000 in
theorem specTagsOf_any {a : Option Addr} {n c : Nat} {l : List Vl} {w : World} (h : Vals w a n l) (hn : n ≤ 1048576000) :
    Calls Try.prog 97 #[.slice a n c] w (Made .i64 3 w.heap.size (tagsX l) w) := by
  have H := Lib.hid h
  have hln := Lib.hid h.len
  clear h
  obtain ⟨i0, hi, hz0, hz1, hz2⟩ := info_parts infoIntS
  have HI := Lib.hid (And.intro hi (And.intro hz0 (And.intro hz1 hz2)))
  clear hi hz0 hz1 hz2
  have HO : Hid (Own .i64 3 (w.alloc (.cells #[] 3)) w.heap.size (some ⟨w.heap.size, 0, none⟩) 0 0 (tagsX (l.take 0))) := Lib.hid (by rw [List.take_zero]; exact Own.empty (Nat.le_refl _))
  have HB : Hid (Below w.heap.size w (w.alloc (.cells #[] 3))) := Lib.hid (alloc_same _ _)
  go_enter Try.func97, Try.ntmps97
  go_wp2_with fail
  go_loopw [3, 4] (fun v i wr => ∃ (j : Nat) (q : Option Addr) (d : Nat), j ≤ n ∧ i = .int .i64 j ∧ v = .slice q j d ∧ Own .i64 3 wr w.heap.size q j d (tagsX (l.take j)) ∧ Below w.heap.size w wr) (fun _ i _ => n - (intOf i).toNat)
  case atStart => exact ⟨0, _, _, Nat.zero_le _, rfl, rfl, HO.out, HB.out⟩
  case round =>
    obtain ⟨j, q, d, hj, rfl, rfl, hown, hb⟩ := hrel
    have HO2 := Lib.hid hown
    have HB2 := Lib.hid hb
    clear hown hb
    by_cases hlt : j < n
    · obtain ⟨b, o, p, m, e, k, y, rfl, hx, hc0, hc1, hN, hr⟩ := (H.out.same HB2.out).at_ hlt
      have HX : Hid (tagsX (l.take (j + 1)) = tagsX (l.take j) ++ [k]) := Lib.hid (tags_take hx)
      have hsz := HB2.out.size
      clear hx hN
      go_wp2_with (at_builtin; refine wpl_app _ rfl (.tmp 12) (.tmp 18) 26 rfl .i64 3 i0 (.int .i64 0) 8 Try.underlying26 HI.out.1 HI.out.2.1 HI.out.2.2.1 HI.out.2.2.2 rfl rfl (HO2.out.alloc _) rfl (nums_new _ _ _ _) (by omega) ?c1 ?c2 ?_)
      case c1 => omega
      case c2 => simp; omega
      intro a3 c3 w3 ho3 hb3
      have HO3 : Hid (Own .i64 3 w3 w.heap.size a3 (j + 1) c3 (tagsX (l.take (j + 1)))) := Lib.hid (by rw [HX.out]; exact ho3)
      have HB3 : Hid (Below w.heap.size w w3) := Lib.hid (HB2.out.trans (((alloc_same wr _).mono hsz).trans hb3))
      clear ho3 hb3 hc0 hc1
      go_wp2_with fail
      go_roundw
      case rel => exact ⟨j + 1, a3, c3, by omega, by go_num, rfl, HO3.out, HB3.out⟩
      case measure => simp [intOf]; omega
    · obtain rfl : j = n := by omega
      go_wp2
      go_ret
      have h1 := HO2.out
      rw [List.take_of_length_le (by rw [hln.out]; omega)] at h1
      exact ⟨_, _, _, rfl, h1, HB2.out⟩
end Go.Proofs.Ytnjjfagokbbelaa
