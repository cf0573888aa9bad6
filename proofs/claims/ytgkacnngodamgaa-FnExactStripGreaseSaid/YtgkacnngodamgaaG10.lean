/- Whether a list of extensions is valid, and its tags: by the model. The helpers of the exact laws at lists of extensions: measured, copied, compared. A list of extensions is drawn. A list of extensions is drawn, perhaps with a fault. A list of extensions is written: by the program. -/
import Derived.Test.YtgkacnngodamgaaG8
import Derived.Test.YtgkacnngodamgaaG9
import Derived.Deep.QuietTactic
import Derived.BigQuiet
import Derived.RegionTactic
import Derived.StillTailTactics
import Derived.Handy
import Derived.Test.YtgkacnngodamgaaG3
import Derived.Deep.RegionHeld3
namespace Go.Proofs.Ytgkacnngodamgaa
open Go.ChangeShapes Go.WideShapes Go.ChangeAt Go.RowKit
set_option linter.unusedVariables false
set_option linter.unusedSimpArgs false

theorem areX_twice {l : List Vl} {j : Nat} {x : Vl} (hx : l[j]? = some x) (h : (tagsX l).idxOf x.num < j) : areX l = false := by
  cases e : areX l with
  | false => rfl
  | true => exact absurd h (nodup_first.1 (areX_parts.1 e).2.2 j x.num (tags_at hx))
theorem areX_end {l : List Vl} (h : ∀ q x, l[q]? = some x → okX x = true ∧ ¬ (tagsX l).idxOf x.num < q) : areX l = decide (l.length ≤ 6) := by
  by_cases h6 : l.length ≤ 6
  · rw [decide_eq_true h6, areX_parts]
    refine ⟨h6, fun x hx => ?_, nodup_first.2 fun q z hz => ?_⟩
    · obtain ⟨q, hq⟩ := List.mem_iff_getElem?.1 hx
      exact (h q x hq).1
    · have hq : q < l.length := by
        have := (List.getElem?_eq_some_iff.1 hz).1
        rwa [tagsX_len] at this
      have e := tags_at (List.getElem?_eq_getElem hq)
      rw [hz] at e
      cases e
      exact (h q _ (List.getElem?_eq_getElem hq)).2
  · rw [decide_eq_false h6]
    exact areX_long (by omega)
set_option maxHeartbeats 4000000 in
set_option maxRecDepth 100000 in
theorem specAreExts_any {a : Option Addr} {n c : Nat} {l : List Vl} {w : World} (h : Vals w a n l) :
    Calls Try.prog 74 #[.slice a n c] w fun e w' => e = .returned (.bool (areX l)) ∧ w = w' := by
  have H := Lib.hid h
  have hln := Lib.hid h.len
  have hfit := h.fits
  clear h
  go_enter Try.func74, Try.ntmps74
  go_wp2_with fail
  go_loop [3] (fun i => ∃ j : Nat, j ≤ n ∧ i = .int .i64 j ∧ (∀ q x, q < j → l[q]? = some x → okX x = true ∧ ¬ (tagsX l).idxOf x.num < q)) (fun i => n - (intOf i).toNat)
  case atStart => exact ⟨0, Nat.zero_le _, rfl, fun q x hq => by omega⟩
  case round =>
    obtain ⟨j, hj, rfl, hok⟩ := hrel
    have HK := Lib.hid hok
    clear hok
    by_cases hlt : j < n
    · obtain ⟨b, o, p, m, e, k, y, rfl, hx, hc0, hc1, hN, hr⟩ := H.out.at_ hlt
      have hm := hN.len
      have hmf := hN.fits
      have HX := Lib.hid hx
      have KB := Lib.hid (fun w0 (hb : w = w0) => by subst hb; exact l9Byte_any (c := e) hN)
      have KE := Lib.hid (specExtOf_any (c := c) k H.out)
      rw [extOf_yes (tags_mem hx)] at KE
      by_cases hk : 0 ≤ k ∧ k ≤ 255
      · have KI := Lib.hid (fun w0 => l1R_t (decide_eq_true hk) w0)
        by_cases h4 : 4 < m
        · have HE : Hid (areX l = false) := Lib.hid (okX_stop HX.out (by
            unfold okX fitIts; dsimp only
            rw [decide_eq_false (show ¬ (y.length : Int) ≤ 4 by omega)]
            simp))
          clear hx hN hk hm KB KE
          go_wp2_with (go_at_call 91; refine (KI.out _).mono ?_; rintro e w' ⟨rfl, rfl⟩)
          go_ret
          exact ⟨by rw [HE.out]; rfl, rfl⟩
        · cases ha : allIn y 255 with
          | false =>
            have HE : Hid (areX l = false) := Lib.hid (okX_stop HX.out (by
              unfold okX fitIts; dsimp only
              rw [ha]
              simp))
            rw [ha] at KB
            clear hx hN hk hm KE ha
            go_wp2_with (first | (go_at_call 91; refine (KI.out _).mono ?_; rintro e w' ⟨rfl, rfl⟩) | (go_at_call 92; refine (KB.out _ rfl).mono ?_; rintro e w' ⟨rfl, rfl⟩))
            go_ret
            exact ⟨by rw [HE.out]; rfl, rfl⟩
          | true =>
            have HO : Hid (okX ⟨k, y⟩ = true) := Lib.hid (by
              unfold okX fitIts; dsimp only
              rw [ha, decide_eq_true hk, decide_eq_true (show (y.length : Int) ≤ 4 by omega)]
              rfl)
            rw [ha] at KB
            obtain ⟨r, hr2⟩ : ∃ r, r = (tagsX l).idxOf k := ⟨_, rfl⟩
            rw [← hr2] at KE
            by_cases hlo : r < j
            · have HE : Hid (areX l = false) := Lib.hid (areX_twice HX.out (by rw [← hr2]; exact hlo))
              clear hx hN hk hm ha hr2
              go_wp2_with (first | (go_at_call 91; refine (KI.out _).mono ?_; rintro e w' ⟨rfl, rfl⟩) | (go_at_call 92; refine (KB.out _ rfl).mono ?_; rintro e w' ⟨rfl, rfl⟩) | (go_at_call 75; refine KE.out.mono ?_; rintro e w' ⟨rfl, rfl⟩))
              go_ret
              exact ⟨by rw [HE.out]; rfl, rfl⟩
            · have HS : Hid (∀ q x, q < j + 1 → l[q]? = some x → okX x = true ∧ ¬ (tagsX l).idxOf x.num < q) := Lib.hid (fun q x hq hxq => by
                by_cases e : q = j
                · subst e
                  rw [HX.out] at hxq
                  cases hxq
                  exact ⟨HO.out, by rw [← hr2]; exact hlo⟩
                · exact HK.out q x (by omega) hxq)
              clear hx hN hk hm ha hr2
              go_wp2_with (first | (go_at_call 91; refine (KI.out _).mono ?_; rintro e w' ⟨rfl, rfl⟩) | (go_at_call 92; refine (KB.out _ rfl).mono ?_; rintro e w' ⟨rfl, rfl⟩) | (go_at_call 75; refine KE.out.mono ?_; rintro e w' ⟨rfl, rfl⟩))
              go_round
              case rel => exact ⟨j + 1, by omega, by go_num, HS.out⟩
              case measure => simp [intOf]; omega
      · have KI := Lib.hid (fun w0 => l1R_t (decide_eq_false hk) w0)
        have HE : Hid (areX l = false) := Lib.hid (okX_stop HX.out (by unfold okX; dsimp only; rw [decide_eq_false hk]; rfl))
        clear hx hN hk hm KB KE
        go_wp2_with (go_at_call 91; refine (KI.out _).mono ?_; rintro e w' ⟨rfl, rfl⟩)
        go_ret
        exact ⟨by rw [HE.out]; rfl, rfl⟩
    · obtain rfl : j = n := by omega
      have HE : Hid (areX l = decide ((j : Int) ≤ 6)) := Lib.hid (by
        rw [areX_end (fun q x hx => HK.out q x (by have := lt_of_some hx; rw [hln.out] at this; exact this) hx), hln.out]
        by_cases h : j ≤ 6
        · rw [decide_eq_true h, decide_eq_true (by omega)]
        · rw [decide_eq_false h, decide_eq_false (by omega)])
      go_wp2_with fail
      go_ret
      exact ⟨by rw [HE.out]; rfl, rfl⟩
set_option maxHeartbeats 2000000 in
set_option maxRecDepth 100000 in
theorem specTagsOf_any {a : Option Addr} {n c : Nat} {l : List Vl} {w : World} (h : Vals w a n l) (hn : n ≤ 1048576000) :
    Calls Try.prog 90 #[.slice a n c] w (Made .i64 3 w.heap.size (tagsX l) w) := by
  have H := Lib.hid h
  have hln := Lib.hid h.len
  clear h
  obtain ⟨i0, hi, hz0, hz1, hz2⟩ := info_parts infoIntS
  have HI := Lib.hid (And.intro hi (And.intro hz0 (And.intro hz1 hz2)))
  clear hi hz0 hz1 hz2
  have HO : Hid (Own .i64 3 (w.alloc (.cells #[] 3)) w.heap.size (some ⟨w.heap.size, 0, none⟩) 0 0 (tagsX (l.take 0))) := Lib.hid (by rw [List.take_zero]; exact Own.empty (Nat.le_refl _))
  have HB : Hid (Below w.heap.size w (w.alloc (.cells #[] 3))) := Lib.hid (alloc_same _ _)
  go_enter Try.func90, Try.ntmps90
  go_wp2_with fail
  go_loopw [3, 4] (fun v i wr => ∃ (j : Nat) (q : Option Addr) (d : Nat), j ≤ n ∧ i = .int .i64 j ∧ v = .slice q j d ∧ Own .i64 3 wr w.heap.size q j d (tagsX (l.take j)) ∧ Below w.heap.size w wr) (fun _ i _ => n - (intOf i).toNat)
  case atStart => exact ⟨0, _, _, Nat.zero_le _, rfl, rfl, HO.out, HB.out⟩
  case round =>
    obtain ⟨j, q, d, hj, rfl, rfl, hown, hb⟩ := hrel
    have HO2 := Lib.hid hown
    have HB2 := Lib.hid hb
    clear hown hb
    by_cases hlt : j < n
    · obtain ⟨b, o, p, m, e, k, y, rfl, hx, hc0, hc1, hN, hr⟩ := (H.out.same HB2.out).at_ hlt
      have HX : Hid (tagsX (l.take (j + 1)) = tagsX (l.take j) ++ [k]) := Lib.hid (tags_take hx)
      have hsz := HB2.out.size
      clear hx hN
      go_wp2_with (at_builtin; refine wpl_app _ rfl (.tmp 12) (.tmp 18) 26 rfl .i64 3 i0 (.int .i64 0) 8 Try.underlying26 HI.out.1 HI.out.2.1 HI.out.2.2.1 HI.out.2.2.2 rfl rfl (HO2.out.alloc _) rfl (nums_new _ _ _ _) (by omega) ?c1 ?c2 ?_)
      case c1 => omega
      case c2 => simp; omega
      intro a3 c3 w3 ho3 hb3
      have HO3 : Hid (Own .i64 3 w3 w.heap.size a3 (j + 1) c3 (tagsX (l.take (j + 1)))) := Lib.hid (by rw [HX.out]; exact ho3)
      have HB3 : Hid (Below w.heap.size w w3) := Lib.hid (HB2.out.trans (((alloc_same wr _).mono hsz).trans hb3))
      clear ho3 hb3 hc0 hc1
      go_wp2_with fail
      go_roundw
      case rel => exact ⟨j + 1, a3, c3, by omega, by go_num, rfl, HO3.out, HB3.out⟩
      case measure => simp [intOf]; omega
    · obtain rfl : j = n := by omega
      go_wp2
      go_ret
      have h1 := HO2.out
      rw [List.take_of_length_le (by rw [hln.out]; omega)] at h1
      exact ⟨_, _, _, rfl, h1, HB2.out⟩
end Go.Proofs.Ytgkacnngodamgaa
namespace Go.Proofs.Ytgkacnngodamgaa
open Go.ChangeShapes Go.WideShapes Go.ChangeAt Go.RowKit
set_option linter.unusedVariables false

theorem infoExtS : (Try.prog.info? 57).map (fun i => (i.zero, i.size, i.bytes)) = some (some (.agg #[.int .i64 0, .slice none 0 0]), 2, 32) := by kernel_rfl
set_option maxRecDepth 100000 in
theorem szExt_any (k : Int) (a : Option Addr) (n c : Nat) (left : Int) (w : World) (hn : (n : Int) ≤ 9223372036854775807) (h0 : 0 ≤ left) (hl : left ≤ 1048576) :
    Calls Try.prog 67 #[.agg #[.int .i64 k, .slice a n c], .int .i64 left] w (Told (.int .i64 (leftOf left n)) w) := by
  by_cases h : (n : Int) ≤ left
  · have e : leftOf left n = left - n := if_pos h
    have K := Lib.hid (fun w' => szIntS_any a n c left w' hn h0 hl)
    rw [e] at K ⊢
    clear e
    go_enter Try.func67, Try.ntmps67
    go_wp2_with fail
    refine (K.out _).mono ?_
    rintro e w1 ⟨rfl, rfl⟩
    go_wp2_with fail
    go_ret
    exact ⟨rfl, (Below.refl _ w).alloc (Nat.le_refl _) _⟩
  · have e : leftOf left n = -1 := if_neg h
    have K := Lib.hid (fun w' => szIntS_any a n c left w' hn h0 hl)
    rw [e] at K ⊢
    clear e
    go_enter Try.func67, Try.ntmps67
    go_wp2_with fail
    refine (K.out _).mono ?_
    rintro e w1 ⟨rfl, rfl⟩
    go_wp2_with fail
    go_ret
    exact ⟨rfl, (Below.refl _ w).alloc (Nat.le_refl _) _⟩
set_option maxRecDepth 100000 in
theorem szExtS_yes (a : Option Addr) (n c : Nat) (l : List Vl) (left : Int) (w : World) (h : Vals w a n l) (hl : left ≤ 1048576) (hs : (n : Int) + itemsOf l ≤ left) :
    Calls Try.prog 30 #[.slice a n c, .int .i64 left] w (Told (.int .i64 (left - n - itemsOf l)) w) := by
  have H := Lib.hid h
  have hln := Lib.hid h.len
  clear h
  go_enter Try.func30, Try.ntmps30
  go_wp2_with fail
  go_loopw [1, 5] (fun q i wr => ∃ j : Nat, j ≤ n ∧ i = .int .i64 j ∧ q = .int .i64 (left - n - itemsOf (l.take j)) ∧ Below w.heap.size w wr) (fun _ i _ => n - (intOf i).toNat)
  case atStart => exact ⟨0, Nat.zero_le _, rfl, by simp [itemsOf], Below.refl _ _⟩
  case round =>
    obtain ⟨j, hj, rfl, rfl, hb⟩ := hrel
    have HB := Lib.hid hb
    clear hb
    by_cases hlt : j < n
    · obtain ⟨b, o, p, m, d, k, y, rfl, hx, hc0, hc1, hN, hr⟩ := (H.out.same HB.out).at_ hlt
      have hst := itemsOf_at hx
      have hle := itemsOf_le l (j + 1)
      have hym := hN.len
      dsimp only at hst
      have hlo : leftOf (left - n - itemsOf (l.take j)) m = left - n - itemsOf (l.take (j + 1)) := by
        unfold leftOf
        rw [if_pos (by omega)]
        omega
      have HL := Lib.hid hlo
      clear hx hN hlo
      go_wp2_with fail
      refine (szExt_any k p m d _ _ (by omega) (by omega) (by omega)).mono ?_
      rw [HL.out]
      rintro e w2 ⟨rfl, hb2⟩
      have HB2 := Lib.hid (HB.out.trans (hb2.mono HB.out.size))
      clear hb2 hc0 hc1
      go_wp2_with fail
      go_roundw
      case rel => exact ⟨j + 1, by omega, by go_num, by congr 1; omega, HB2.out⟩
      case measure => simp [intOf]; omega
    · obtain rfl : j = n := by omega
      go_wp2_with fail
      go_ret
      rw [List.take_of_length_le (by rw [hln.out]; omega)]
      exact ⟨rfl, HB.out⟩
set_option maxRecDepth 100000 in
theorem szExtS_no (a : Option Addr) (n c : Nat) (l : List Vl) (left : Int) (w : World) (h : Vals w a n l) (h0 : 0 ≤ left) (hl : left ≤ 1048576) (hs : left < (n : Int) + itemsOf l) :
    Calls Try.prog 30 #[.slice a n c, .int .i64 left] w (Told (.int .i64 (-1)) w) := by
  have H := Lib.hid h
  have hln := Lib.hid h.len
  have hfit := h.fits
  clear h
  by_cases hn : (n : Int) ≤ left
  · go_enter Try.func30, Try.ntmps30
    go_wp2_with fail
    go_loopw [1, 5] (fun q i wr => ∃ j : Nat, j ≤ n ∧ i = .int .i64 j ∧ q = .int .i64 (left - n - itemsOf (l.take j)) ∧ (n : Int) + itemsOf (l.take j) ≤ left ∧ Below w.heap.size w wr) (fun _ i _ => n - (intOf i).toNat)
    case atStart => exact ⟨0, Nat.zero_le _, rfl, by simp [itemsOf], by simp [itemsOf]; omega, Below.refl _ _⟩
    case round =>
      obtain ⟨j, hj, rfl, rfl, hin, hb⟩ := hrel
      have HB := Lib.hid hb
      clear hb
      by_cases hlt : j < n
      · obtain ⟨b, o, p, m, d, k, y, rfl, hx, hc0, hc1, hN, hr⟩ := (H.out.same HB.out).at_ hlt
        have hst := itemsOf_at hx
        have hym := hN.len
        dsimp only at hst
        clear hx hN
        by_cases hm : (m : Int) ≤ left - n - itemsOf (l.take j)
        · have hlo : leftOf (left - n - itemsOf (l.take j)) m = left - n - itemsOf (l.take (j + 1)) := by
            unfold leftOf
            rw [if_pos (by omega)]
            omega
          have HL := Lib.hid hlo
          clear hlo
          go_wp2_with fail
          refine (szExt_any k p m d _ _ (by omega) (by omega) (by omega)).mono ?_
          rw [HL.out]
          rintro e w2 ⟨rfl, hb2⟩
          have HB2 := Lib.hid (HB.out.trans (hb2.mono HB.out.size))
          clear hb2 hc0 hc1
          go_wp2_with fail
          go_roundw
          case rel => exact ⟨j + 1, by omega, by go_num, by congr 1; omega, by omega, HB2.out⟩
          case measure => simp [intOf]; omega
        · have hlo : leftOf (left - n - itemsOf (l.take j)) m = -1 := if_neg hm
          have HL := Lib.hid hlo
          clear hlo
          go_wp2_with fail
          refine (szExt_any k p m d _ _ (by omega) (by omega) (by omega)).mono ?_
          rw [HL.out]
          rintro e w2 ⟨rfl, hb2⟩
          have HB2 := Lib.hid (HB.out.trans (hb2.mono HB.out.size))
          clear hb2 hc0 hc1
          go_wp2_with fail
          go_ret
          exact ⟨rfl, HB2.out⟩
      · exfalso
        obtain rfl : j = n := by omega
        rw [List.take_of_length_le (by rw [hln.out]; omega)] at hin
        omega
  · go_enter Try.func30, Try.ntmps30
    go_wp2_with fail
    go_ret
    exact ⟨rfl, Below.refl _ _⟩
set_option maxRecDepth 100000 in
theorem toExt_any (k : Int) (a : Option Addr) (n c : Nat) (y : List Int) (w : World) (h : Nums .i64 w a n y) (hn : n ≤ 1048576000) :
    Calls Try.prog 69 #[.agg #[.int .i64 k, .slice a n c]] w fun e w' => ∃ q m d, e = .returned (.agg #[.int .i64 k, .slice q m d]) ∧ Own .i64 3 w' w.heap.size q m d y ∧ Below w.heap.size w w' := by
  have H := Lib.hid h
  clear h
  go_enter Try.func69, Try.ntmps69
  go_wp2_with fail
  have HW0 : Hid (Below w.heap.size w (((w.alloc (.cells #[.int .i64 k, .slice a n c] 88)).alloc (.cells #[.int .i64 0, .slice none 0 0] 57)).alloc (.cells #[.int .i64 k, .slice none 0 0] 57))) := Lib.hid ((((Below.refl _ w).alloc (Nat.le_refl _) _).alloc (by simp) _).alloc (by simp; omega) _)
  have hL : (((w.alloc (.cells #[.int .i64 k, .slice a n c] 88)).alloc (.cells #[.int .i64 0, .slice none 0 0] 57)).alloc (.cells #[.int .i64 k, .slice none 0 0] 57)).heap[w.heap.size + 1 + 1]? = some (.cells #[.int .i64 k, .slice none 0 0] 57 (0, 0)) := by
    have := heap_alloc_new ((w.alloc (.cells #[.int .i64 k, .slice a n c] 88)).alloc (.cells #[.int .i64 0, .slice none 0 0] 57)) (.cells #[.int .i64 k, .slice none 0 0] 57 (0, 0))
    simpa using this
  have hM : (((w.alloc (.cells #[.int .i64 k, .slice a n c] 88)).alloc (.cells #[.int .i64 0, .slice none 0 0] 57)).alloc (.cells #[.int .i64 k, .slice none 0 0] 57)).heap[w.heap.size + 1]? = some (.cells #[.int .i64 0, .slice none 0 0] 57 (0, 0)) := by
    rw [Below.heap_alloc _ _ _ (by simp)]
    have := heap_alloc_new (w.alloc (.cells #[.int .i64 k, .slice a n c] 88)) (.cells #[.int .i64 0, .slice none 0 0] 57 (0, 0))
    simpa using this
  have hsz : w.heap.size + 3 = (((w.alloc (.cells #[.int .i64 k, .slice a n c] 88)).alloc (.cells #[.int .i64 0, .slice none 0 0] 57)).alloc (.cells #[.int .i64 k, .slice none 0 0] 57)).heap.size := by simp
  generalize (((w.alloc (.cells #[.int .i64 k, .slice a n c] 88)).alloc (.cells #[.int .i64 0, .slice none 0 0] 57)).alloc (.cells #[.int .i64 k, .slice none 0 0] 57)) = W0 at *
  refine (toIntS_any a n c y _ (H.out.same HW0.out) hn).mono ?_
  rintro e w1 ⟨q, m, d, rfl, ho, hb⟩
  have hL1 : w1.heap[w.heap.size + 1 + 1]? = some (.cells #[.int .i64 k, .slice none 0 0] 57 (0, 0)) := by rw [hb.block _ (by omega)]; exact hL
  have hM1 : w1.heap[w.heap.size + 1]? = some (.cells #[.int .i64 0, .slice none 0 0] 57 (0, 0)) := by rw [hb.block _ (by omega)]; exact hM
  have hL2 := heap_setCell_same w1 (w.heap.size + 1 + 1) 1 _ _ (.slice q m d) hL1
  have c0 := (block_cell hL1 0).trans rfl
  have c1 := (block_cell hL1 1).trans rfl
  have f1 := block_frozen hL1 1
  have d0 := (block_cell hL2 0).trans rfl
  have d1 := (block_cell hL2 1).trans rfl
  have g0 := block_frozen hM1 0
  have g1 := block_frozen hM1 1
  have m0 := (block_cell hM1 0).trans rfl
  have m1 := (block_cell hM1 1).trans rfl
  have HB1 := Lib.hid (HW0.out.trans (hb.mono HW0.out.size))
  have HO := Lib.hid (ho.lower HW0.out.size)
  have HSP := Lib.hid ho.span
  have hM2 : (w1.setCell ⟨w.heap.size + 1 + 1, 1, none⟩ (.slice q m d)).heap[w.heap.size + 1]? = some (.cells #[.int .i64 0, .slice none 0 0] 57 (0, 0)) := by rw [Below.heap_setCell _ _ _ _ (by dsimp only; omega)]; exact hM1
  have hM3 := heap_setCell_same _ (w.heap.size + 1) 0 _ _ (.int .i64 k) hM2
  have hM4 := heap_setCell_same _ (w.heap.size + 1) 1 _ _ (.slice q m d) hM3
  have z0 : ((w1.setCell ⟨w.heap.size + 1 + 1, 1, none⟩ (.slice q m d)).setCell ⟨w.heap.size + 1, 0, none⟩ (.int .i64 k)).cell? ⟨w.heap.size + 1, 0, none⟩ = some (.int .i64 k) := (block_cell hM3 0).trans rfl
  have z1 : (((w1.setCell ⟨w.heap.size + 1 + 1, 1, none⟩ (.slice q m d)).setCell ⟨w.heap.size + 1, 0, none⟩ (.int .i64 k)).setCell ⟨w.heap.size + 1, 1, none⟩ (.slice q m d)).cell? ⟨w.heap.size + 1, 1, none⟩ = some (.slice q m d) := (block_cell hM4 1).trans rfl
  clear ho hb hL hM hL1 hM1 hL2 hM2 hM3 hM4
  go_wp2_with fail
  (try simp only [Exit.inBlock, Exit.then])
  refine bodyPost_ret (by simp [results, Try.results69, go_sem, z0, z1]; try rfl) rfl ?_
  have hd : ∀ x, x < w.heap.size + 3 → ∀ ad, q = some ad → ad.block ≠ x := fun x hx ad e => by
    have := (HSP.out ad e).1
    omega
  refine ⟨_, _, _, rfl, ((HO.out.set (hd _ (by omega)) _ _).set (hd _ (by omega)) _ _).set (hd _ (by omega)) _ _, ((HB1.out.setCell (by dsimp only; omega) _).setCell (by dsimp only; omega) _).setCell (by dsimp only; omega) _⟩
set_option maxRecDepth 100000 in
theorem eqExt_yes (k : Int) (a b : Option Addr) (n m c d : Nat) (y : List Int) (w : World) (h : Nums .i64 w a n y) (h' : Nums .i64 w b m y) :
    Calls Try.prog 70 #[.agg #[.int .i64 k, .slice a n c], .agg #[.int .i64 k, .slice b m d]] w (Told (.bool true) w) := by
  have H := Lib.hid h
  have H' := Lib.hid h'
  clear h h'
  go_enter Try.func70, Try.ntmps70
  go_wp2_with fail
  have HB : Hid (Below w.heap.size w ((w.alloc (.cells #[.int .i64 k, .slice a n c] 57)).alloc (.cells #[.int .i64 k, .slice b m d] 57))) := Lib.hid (((Below.refl _ w).alloc (Nat.le_refl _) _).alloc (by simp) _)
  refine (eqIntS_yes a b n m c d y _ (H.out.same HB.out) (H'.out.same HB.out)).mono ?_
  rintro e w1 ⟨rfl, hb⟩
  have HB1 := Lib.hid (HB.out.trans (hb.mono HB.out.size))
  clear hb
  go_wp2_with fail
  go_ret
  exact ⟨rfl, HB1.out⟩
set_option maxRecDepth 100000 in
theorem eqExtS_yes (a b : Option Addr) (n m c d : Nat) (l : List Vl) (w : World) (h : Vals w a n l) (h' : Vals w b m l) :
    Calls Try.prog 34 #[.slice a n c, .slice b m d] w (Told (.bool true) w) := by
  obtain rfl : n = m := by rw [← h.len, ← h'.len]
  have hn := h.fits
  have H := Lib.hid h
  have H' := Lib.hid h'
  clear h h'
  go_enter Try.func34, Try.ntmps34
  go_wp2_with fail
  go_loopw [5] (fun i wr => ∃ j : Nat, j ≤ n ∧ i = .int .i64 j ∧ Below w.heap.size w wr) (fun i _ => n - (intOf i).toNat)
  case atStart => exact ⟨0, Nat.zero_le _, rfl, Below.refl _ _⟩
  case round =>
    obtain ⟨j, hj, rfl, hb⟩ := hrel
    have HB := Lib.hid hb
    clear hb
    by_cases hlt : j < n
    · obtain ⟨b1, o1, p1, m1, d1, k1, y1, rfl, hx, hc0, hc1, hN1, hr1⟩ := (H.out.same HB.out).at_ hlt
      obtain ⟨b2, o2, p2, m2, d2, k2, y2, rfl, hy, hd0, hd1, hN2, hr2⟩ := (H'.out.same HB.out).at_ hlt
      rw [hx] at hy
      cases hy
      have HN1 := Lib.hid hN1
      have HN2 := Lib.hid hN2
      clear hx hN1 hN2
      go_wp2_with fail
      go_still_tail 8, (by kernel_rfl)
      have H2 : Hid (Below wr.heap.size wr wr.drew) := Lib.hid (Below.refl _ _).drew
      change wpList _ _ _ _ _ wr.drew
      generalize wr.drew = w2 at H2 ⊢
      go_wp2_with fail
      refine (eqExt_yes k1 p1 p2 m1 m2 d1 d2 y1 w2 (HN1.out.same H2.out) (HN2.out.same H2.out)).mono ?_
      rintro e w3 ⟨rfl, hb3⟩
      have HB3 := Lib.hid ((HB.out.trans (H2.out.mono HB.out.size)).trans (hb3.mono (Nat.le_trans HB.out.size H2.out.size)))
      clear hb3
      go_wp2
      go_roundw
      case rel => exact ⟨j + 1, by omega, by go_num, HB3.out⟩
      case measure => simp [intOf]; omega
    · go_wp2
      go_ret
      exact ⟨rfl, HB.out⟩
set_option maxRecDepth 100000 in
theorem toExtS_any (a : Option Addr) (n c : Nat) (l : List Vl) (w : World) (h : Vals w a n l) (hn : n + itemsOf l ≤ 1048576000) :
    Calls Try.prog 32 #[.slice a n c] w (MadeV 57 3 w.heap.size l w) := by
  have H := Lib.hid h
  have hl := Lib.hid h.len
  clear h
  obtain ⟨i0, hi, hz0, hz1, hz2⟩ := info_parts infoExtS
  go_enter Try.func32, Try.ntmps32
  go_wp2_with (with_reducible refine wpList_make_full _ rfl (.tmp 6) (.tmp 6) 24 rfl w.heap.size 57 i0 (.agg #[.int .i64 0, .slice none 0 0]) 2 Try.underlying24 hi hz0 hz1 .i64 .i64 _ _ n rfl rfl (by omega) (by omega) ?c1 ?c2 ?c3 ?_)
  case c1 => rw [hz2]; omega
  case c2 => unfold maxLen; omega
  case c3 => omega
  intro w1 hown hgrow
  have hb1 : Below w.heap.size w w1 := (Below.refl _ w).grown hgrow (Nat.le_refl _) (fun _ e => by cases e)
  have HO : Hid (OwnV 57 3 w1 w.heap.size (some ⟨w.heap.size, 0, none⟩) n n (l.take 0 ++ List.replicate (n - 0) ⟨0, []⟩)) := by
    have hm : (madeCells #[.int .i64 0, .slice none 0 0] (n * 2)).toList = flatOf Vh.enc (List.replicate n ⟨0, none, 0, 0⟩) := made2 n
    rw [hm] at hown
    exact Lib.hid (by simpa using OwnV.zeros hown)
  have HB := Lib.hid hb1
  clear hown hgrow hb1 hi hz0 hz1 hz2
  go_wp2_with fail
  go_loopw [4] (fun i wr => ∃ j : Nat, j ≤ n ∧ i = .int .i64 j ∧ OwnV 57 3 wr w.heap.size (some ⟨w.heap.size, 0, none⟩) n n (l.take j ++ List.replicate (n - j) ⟨0, []⟩) ∧ Below w.heap.size w wr) (fun i _ => n - (intOf i).toNat)
  case atStart => exact ⟨0, Nat.zero_le _, rfl, HO.out, HB.out⟩
  case round =>
    obtain ⟨j, hj, rfl, hown, hb⟩ := hrel
    have HO2 := Lib.hid hown
    have HB2 := Lib.hid hb
    clear hown hb
    by_cases hlt : j < n
    · obtain ⟨b, o, p, m, d, k, y, rfl, hx, hc0, hc1, hN, hr⟩ := (H.out.same HB2.out).at_ hlt
      have HX := Lib.hid hx
      have HN := Lib.hid hN
      have hm1 := hN.len
      have hm2 := itemsOf_mem hx
      dsimp only at hm2
      clear hx hN
      go_wp2_with fail
      refine (toExt_any k p m d y wr HN.out (by omega)).mono ?_
      rintro e w2 ⟨q, m2, d2, rfl, ho, hb2⟩
      obtain ⟨hs, hI, hRV⟩ := HO2.out
      have hrow := (hI.same hb2).2
      have hf0 := hrow.frozenAt (j * 2)
      have hf1 := hrow.frozenAt (j * 2 + 1)
      obtain ⟨u0, hu0⟩ := row_cell hrow (k := j * 2) (by omega)
      obtain ⟨u1, hu1⟩ := row_cell hrow (k := j * 2 + 1) (by omega)
      have hput := OwnV.put HO2.out hb2 hlt k q m2 d2 y (ho.lower HB2.out.size) (fun ad e => (ho.span ad e).1)
      rw [put_step HX.out hl.out] at hput
      have HP := Lib.hid hput
      have HB3 := Lib.hid (HB2.out.trans (hb2.mono HB2.out.size))
      clear hrow hb2 hc0 hc1 hI hRV ho hput
      go_wp2_with fail
      go_roundw
      case rel =>
        exact ⟨j + 1, by omega, by go_num, HP.out.1, grown_to (b := some ⟨w.heap.size, 0, none⟩) (m := n) (d := n) HP.out.2 HB3.out (lo := w.heap.size) (hi := w.heap.size + 1) (fun ad e => by cases e; exact ⟨Nat.le_refl _, Nat.lt_succ_self _⟩) (Nat.le_refl _) HB3.out.size⟩
      case measure => simp [intOf]; omega
    · obtain rfl : j = n := by omega
      go_wp2
      go_ret
      have h1 := HO2.out
      rw [List.take_of_length_le (by rw [hl.out]; omega), Nat.sub_self, List.replicate_zero, List.append_nil] at h1
      exact ⟨_, _, _, rfl, h1, HB2.out⟩
end Go.Proofs.Ytgkacnngodamgaa
namespace Go.Proofs.Ytgkacnngodamgaa
open Go.ChangeShapes Go.WideShapes Go.ChangeAt Go.RowKit
set_option linter.unusedVariables false
set_option linter.unusedSimpArgs false

/-- While one extension of a list is drawn: it lies in block g, its integers behind it, the list below it. -/
structure BoxE (b : Nat) (a : Option Addr) (n c : Nat) (w : World) (g : Nat) (k : Int) (p : Option Addr) (m d : Nat) (y : List Int) (ao : Option Addr) (no co : Nat) (v : List Vl) (W : World) : Prop where
  cu : Curs w b a n c
  dr : Drawn b a n c w W
  box : W.heap[g]? = some (.cells #[.int .i64 k, .slice p m d] 57 (0, 0))
  own : Own .i64 3 W (g + 1) p m d y
  val : OwnVB g 57 3 W w.heap.size ao no co v
  ge : w.heap.size ≤ g
section
variable {b : Nat} {a : Option Addr} {n c : Nat} {w : World} {g : Nat} {k : Int} {p : Option Addr} {m d : Nat} {y : List Int} {ao : Option Addr} {no co : Nat} {v : List Vl} {W W' : World}
theorem BoxE.lt (h : BoxE b a n c w g k p m d y ao no co v W) : g < W.heap.size := by
  rcases Nat.lt_or_ge g W.heap.size with h1 | h1
  · exact h1
  · have := h.box
    rw [Array.getElem?_eq_none h1] at this
    cases this
theorem BoxE.new (k : Int) (cu : Curs w b a n c) (hd : Drawn b a n c w W) (ho : OwnV 57 3 W w.heap.size ao no co v) : BoxE b a n c w W.heap.size k none 0 0 [] ao no co v (W.alloc (.cells #[.int .i64 k, .slice none 0 0] 57)) :=
  ⟨cu, hd.same (alloc_same _ _), heap_alloc_new _ _, Own.nil, ho.lim.same (alloc_same _ _), hd.2.size⟩
theorem BoxE.only (h : BoxE b a n c w g k p m d y ao no co v W) (hd : Drawn b a n c W W') : BoxE b a n c w g k p m d y ao no co v W' := by
  have hb := h.cu.lt
  have hge := h.ge
  exact ⟨h.cu, h.dr.trans hd, by rw [hd.2.block g h.lt (by omega)]; exact h.box, h.own.far (only_grown hd.2) (fun ad e q => by
    have := (h.own.span ad e).1
    cases q
    omega), h.val.only hd.2 hb, hge⟩
theorem BoxE.same (h : BoxE b a n c w g k p m d y ao no co v W) (hb : Below W.heap.size W W') : BoxE b a n c w g k p m d y ao no co v W' :=
  ⟨h.cu, h.dr.same hb, by rw [hb.block g h.lt]; exact h.box, h.own.same hb, h.val.same hb, h.ge⟩
theorem BoxE.num (h : BoxE b a n c w g k p m d y ao no co v W) (k' : Int) : BoxE b a n c w g k' p m d y ao no co v (W.setCell ⟨g, 0, none⟩ (.int .i64 k')) := by
  have hge := h.ge
  have hB : Below w.heap.size W (W.setCell ⟨g, 0, none⟩ (.int .i64 k')) := (Below.refl _ W).setCell (by dsimp only; omega) _
  exact ⟨h.cu, h.dr.under h.cu hB (Nat.le_refl _), by rw [heap_setCell_same W g 0 _ _ (.int .i64 k') h.box]; rfl, h.own.set (fun ad e => by
    have := (h.own.span ad e).1
    omega) _ _, h.val.far (set_grown W g 0 _) (fun r e => by cases e; exact Or.inr (Nat.le_refl _)), hge⟩
/-- The block itself, behind an append onto the integers. -/
theorem BoxE.kept (h : BoxE b a n c w g k p m d y ao no co v W) (hg : W.grownBy W' (Value.ownBlock (.slice p m d))) : W'.heap[g]? = some (.cells #[.int .i64 k, .slice p m d] 57 (0, 0)) := by
  rw [hg.block g h.lt (fun e => ?_)]
  · exact h.box
  · cases hp : p with
    | none => rw [hp] at e; simp [Value.ownBlock] at e
    | some ad =>
      rw [hp] at e
      have := (h.own.span ad hp).1
      simp only [Value.ownBlock, Option.some.injEq] at e
      omega
theorem BoxE.items (h : BoxE b a n c w g k p m d y ao no co v W) (hg : W.grownBy W' (Value.ownBlock (.slice p m d))) {p' : Option Addr} {m' d' : Nat} {y' : List Int} (ho : Own .i64 3 W' (g + 1) p' m' d' y') :
    BoxE b a n c w g k p' m' d' y' ao no co v (W'.setCell ⟨g, 1, none⟩ (.slice p' m' d')) := by
  have hge := h.ge
  have hrow : ∀ r, Value.ownBlock (.slice p m d) = some r → g + 1 ≤ r := fun r e => by
    cases hp : p with
    | none => rw [hp] at e; simp [Value.ownBlock] at e
    | some ad =>
      rw [hp] at e
      have := (h.own.span ad hp).1
      simp only [Value.ownBlock, Option.some.injEq] at e
      omega
  have hB1 : Below w.heap.size W W' := (Below.refl _ W).grown hg h.dr.2.size (fun r e => by have := hrow r e; omega)
  have hB2 : Below w.heap.size W (W'.setCell ⟨g, 1, none⟩ (.slice p' m' d')) := hB1.setCell (by dsimp only; omega) _
  exact ⟨h.cu, h.dr.under h.cu hB2 (Nat.le_refl _), by rw [heap_setCell_same W' g 1 _ _ (.slice p' m' d') (h.kept hg)]; rfl, ho.set (fun ad e => by
    have := (ho.span ad e).1
    omega) _ _, (h.val.far hg (fun r e => Or.inr (by have := hrow r e; omega))).far (set_grown W' g 1 _) (fun r e => by cases e; exact Or.inr (Nat.le_refl _)), hge⟩
theorem BoxE.cell (h : BoxE b a n c w g k p m d y ao no co v W) {q : Addr} {u : Value} (hq : w.cell? q = some u) (hne : q.block ≠ b) : W.cell? q = some u := by
  rw [h.dr.2.cell (cell_in hq) hne]
  exact hq
end

/-- The extensions drawn so far: valid, and no two with the same tag. -/
def Xok (v : List Vl) : Prop := (∀ x ∈ v, okX x = true) ∧ (tagsX v).Nodup
theorem Xok.nil : Xok [] := ⟨fun x hx => by (cases hx), List.nodup_nil⟩
theorem Xok.app {v : List Vl} {k : Int} {y : List Int} (h : Xok v) (hk : 0 ≤ k ∧ k ≤ 255) (hy : ∀ z ∈ y, 0 ≤ z ∧ z ≤ 255) (hl : y.length ≤ 3) (hn : extOf v k < 0) : Xok (v ++ [⟨k, y⟩]) := by
  refine ⟨fun x hx => ?_, ?_⟩
  · rcases List.mem_append.1 hx with q | q
    · exact h.1 x q
    · rw [List.mem_singleton.1 q]
      unfold okX fitIts allIn
      dsimp only
      rw [decide_eq_true hk, decide_eq_true (by omega), Bool.true_and, Bool.true_and, List.all_eq_true]
      intro z hz
      exact decide_eq_true (hy z hz)
  · have hno : ¬ k ∈ tagsX v := fun hm => by
      rw [extOf_yes hm] at hn
      omega
    unfold tagsX at hno ⊢
    rw [List.map_append, List.nodup_append]
    refine ⟨h.2, by simp, fun a ha b hb e => ?_⟩
    have : b = k := by simpa using hb
    rw [e, this] at ha
    exact hno ha
theorem Xok.are {v : List Vl} (h : Xok v) (h6 : v.length ≤ 6) : areX v = true := areX_parts.2 ⟨h6, h.1, h.2⟩
theorem Xok.vok {v : List Vl} (h : Xok v) : Vok 4 v := fun x hx => by
  have h1 := h.1 x hx
  refine ⟨⟨⟨by have := okX_tag h1; omega, by have := okX_tag h1; omega⟩, fun z hz => ?_⟩, okX_few h1⟩
  unfold okX fitIts allIn at h1
  rw [Bool.and_eq_true, Bool.and_eq_true, List.all_eq_true] at h1
  have h2 := h1.2.2 z hz
  rw [decide_eq_true_eq] at h2
  exact ⟨by omega, by omega⟩
set_option maxHeartbeats 8000000 in
set_option maxRecDepth 100000 in
theorem drawE_any (b : Nat) (a : Option Addr) (n c : Nat) (w : World) (hc : Curs w b a n c) :
    Calls Try.prog 50 #[.pointer (some ⟨b, 0, none⟩)] w fun e w' => ∃ (ao : Option Addr) (m co : Nat) (v : List Vl), e = .returned (.slice ao m co) ∧ OwnV 57 3 w' w.heap.size ao m co v ∧ m ≤ 5 ∧ Xok v ∧ Drawn b a n c w w' := by
  have HC := Lib.hid hc
  clear hc
  obtain ⟨i0, hi, hz0, hz1, hz2⟩ := info_parts infoExtS
  have HI := Lib.hid (And.intro hi (And.intro hz0 (And.intro hz1 hz2)))
  clear hi hz0 hz1 hz2
  obtain ⟨i1, hi, hz0, hz1, hz2⟩ := info_parts infoIntS
  have HJ := Lib.hid (And.intro hi (And.intro hz0 (And.intro hz1 hz2)))
  clear hi hz0 hz1 hz2
  have HD0 : Hid (Drawn b a n c w (w.alloc (.cells #[] 57))) := Lib.hid ((Drawn.refl HC.out).same (alloc_same _ _))
  have HO0 : Hid (OwnV 57 3 (w.alloc (.cells #[] 57)) w.heap.size (some ⟨w.heap.size, 0, none⟩) 0 0 []) := Lib.hid (OwnV.empty (Nat.le_refl _))
  go_enter Try.func50, Try.ntmps50
  go_wp2_with fail
  refine (below_any b a n c 6 (by omega) (by omega) _ HD0.out.1).mono ?_
  rintro e w1 ⟨x, hx0, hx1, rfl, hd1⟩
  obtain ⟨q0, rfl⟩ : ∃ q0 : Nat, x = q0 := ⟨x.toNat, by omega⟩
  have HO1 := Lib.hid (HO0.out.only hd1.2 HC.out.lt)
  have HD1 := Lib.hid (HD0.out.trans hd1)
  clear hd1
  go_wp2_with fail
  go_loopw [3, 4] (fun s i wr => ∃ (q : Nat) (ao : Option Addr) (no co : Nat) (v : List Vl), s = .slice ao no co ∧ i = .int .i64 q ∧ no + q ≤ 5 ∧ OwnV 57 3 wr w.heap.size ao no co v ∧ Xok v ∧ Drawn b a n c w wr) (fun _ i _ => (intOf i).toNat)
  case atStart => exact ⟨q0, _, _, _, [], rfl, rfl, by omega, HO1.out, Xok.nil, HD1.out⟩
  case round =>
    obtain ⟨q, ao, no, co, v, rfl, rfl, hq, ho, hv, hd⟩ := hrel
    have HV := Lib.hid hv
    have HO := Lib.hid ho
    have HD := Lib.hid hd
    have hsz := hd.2.size
    clear ho hv hd
    by_cases hq0 : 0 < q
    · have hqi : (0 : Int) < (q : Int) := by omega
      go_wp2_with fail
      refine (pickNew b a n c [1, 2, 3, 10, 26, 40, 42, 200] 8 (by omega) (by omega) rfl rfl wr HD.out.1).mono ?_
      rintro e w2 ⟨x, hx, rfl, hd2⟩
      have hxi : 0 ≤ x ∧ x ≤ 255 := by
        simp only [List.mem_cons, List.not_mem_nil, or_false] at hx
        omega
      have HD2 := Lib.hid (HD.out.trans hd2)
      have HG2 := Lib.hid (BoxE.new x HC.out HD2.out (HO.out.only hd2.2 HC.out.lt))
      have hs2 := HD2.out.2.size
      clear hd2 hx
      go_wp2_with fail
      generalize hgw : w2.heap.size = g at *
      have HGW := Lib.hid hgw
      clear hgw
      generalize w2.alloc (.cells #[.int .i64 x, .slice none 0 0] 57) = w3 at *
      refine (below_any b a n c 4 (by omega) (by omega) _ HG2.out.dr.1).mono ?_
      rintro e w4 ⟨k, hk0, hk1, rfl, hd4⟩
      obtain ⟨r0, rfl⟩ : ∃ r0 : Nat, k = r0 := ⟨k.toNat, by omega⟩
      have HG4 := Lib.hid (HG2.out.only hd4)
      clear hd4
      go_wp2_with fail
      go_loopw [6] (fun s wi => ∃ (r : Nat) (p : Option Addr) (m d : Nat) (y : List Int), s = .int .i64 r ∧ r + m ≤ 3 ∧ (∀ z ∈ y, 0 ≤ z ∧ z ≤ 255) ∧ BoxE b a n c w g x p m d y ao no co v wi) (fun s _ => (intOf s).toNat)
      case atStart => exact ⟨r0, none, 0, 0, [], rfl, by omega, (fun z hz => by cases hz), HG4.out⟩
      case round =>
        obtain ⟨r, p, m, d, y, rfl, hrm, hy, hG⟩ := hrel
        have HG := Lib.hid hG
        have HY := Lib.hid hy
        clear hG hy
        by_cases hr : 0 < r
        · have hr4 : (0 : Int) < (r : Int) := by omega
          go_wp2_with fail
          have GS := Lib.hid (HG.out.same (Below.refl _ wr).drew)
          refine wp_region_held_drew (S := fun _ => True) (by kernel_rfl) trivial (fun hHeld => ?_)
          refine wpAnyH_take (i := 0) (v := ?v1) (by simp only [List.getElem?_toArray, List.getElem?_cons_succ, List.getElem?_cons_zero]; rfl) (by kernel_rfl) (by kernel_rfl) (by kernel_rfl) (by exact fun _ _ _ h => h) (Or.inl ⟨by rfl, fun w9 hS9 => ?hy1⟩) hHeld ?rest1
          case hy1 =>
            clear hS9
            go_simp
            try with_reducible rfl
          try simp only [Act.put, List.setIfInBounds_toArray, List.set_cons_zero, List.set_cons_succ]
          refine wpAnyH_take (i := 2) (v := ?v2) (by simp only [List.getElem?_toArray, List.getElem?_cons_succ, List.getElem?_cons_zero]; rfl) (by kernel_rfl) (by kernel_rfl) (by kernel_rfl) (by exact fun _ _ _ h => h) (Or.inl ⟨by rfl, fun w9 hS9 => ?hy2⟩) hHeld ?rest2
          case hy2 =>
            clear hS9
            go_simp
            try with_reducible rfl
          try simp only [Act.put, List.setIfInBounds_toArray, List.set_cons_zero, List.set_cons_succ]
          refine wpAnyH_ready (rs := [1, 3]) (by kernel_rfl) (by simp) (AllReadyH.cons (by simp only [List.getElem?_toArray, List.getElem?_cons_succ, List.getElem?_cons_zero]; rfl) (fun K hK => ?_) (AllReadyH.cons (by simp only [List.getElem?_toArray, List.getElem?_cons_succ, List.getElem?_cons_zero]; rfl) (fun K hK => ?_) AllReadyH.nil))
          · skip
            have q1 := (block_cell GS.out.box 1).trans rfl
            go_simp
            refine hK.out _ _ trivial (fun hHeld => ?_)
            clear hK K
            try simp only [Act.put, List.setIfInBounds_toArray, List.set_cons_zero, List.set_cons_succ]
            refine wpAnyH_ready (rs := [3]) (by kernel_rfl) (by simp) (AllReadyH.cons (by simp only [List.getElem?_toArray, List.getElem?_cons_succ, List.getElem?_cons_zero]; rfl) (fun K hK => ?_) AllReadyH.nil)
            go_simp
            refine (below_any b a n c 256 (by omega) (by omega) _ GS.out.dr.1).mono ?_
            rintro e x1 ⟨z, hz0, hz1, rfl, hdz⟩
            have GA := Lib.hid (GS.out.only hdz)
            clear hdz
            go_wp2_with fail
            refine hK.out _ _ trivial (fun hHeld => ?_)
            clear hK K
            try simp only [Act.put, List.setIfInBounds_toArray, List.set_cons_zero, List.set_cons_succ]
            refine wpAnyH_ready (rs := [4]) (by kernel_rfl) (by simp) (AllReadyH.cons (by simp only [List.getElem?_toArray, List.getElem?_cons_succ, List.getElem?_cons_zero]; rfl) (fun K hK => ?_) AllReadyH.nil)
            have GB := Lib.hid (GA.out.same (alloc_same x1 (.cells #[.int .i64 z] 3)))
            have NB := Lib.hid (nums_new x1 .i64 z 3)
            go_simp
            refine hK.out _ _ trivial (fun hHeld => ?_)
            clear hK K
            try simp only [Act.put, List.setIfInBounds_toArray, List.set_cons_zero, List.set_cons_succ]
            refine wpAnyH_ready (rs := [5]) (by kernel_rfl) (by simp) (AllReadyH.cons (by simp only [List.getElem?_toArray, List.getElem?_cons_succ, List.getElem?_cons_zero]; rfl) (fun K hK => ?_) AllReadyH.nil)
            have hszb := GB.out.lt
            refine step_app3 _ (by rfl) (.tmp 25) (.tmp 28) 26 (by rfl) .i64 3 i1 (.int .i64 0) 8 Try.underlying26 HJ.out.1 HJ.out.2.1 HJ.out.2.2.1 HJ.out.2.2.2 rfl (by rfl) GB.out.own (by rfl) NB.out (by omega) (by omega) (by omega) (by omega) ?_
            intro p2 d2 x2 ho2 hg2 _
            have HK2 := Lib.hid (GB.out.kept hg2)
            have GC := Lib.hid (GB.out.items hg2 ho2)
            clear ho2 hg2
            refine hK.out _ _ trivial (fun hHeld => ?_)
            clear hK K
            try simp only [Act.put, List.setIfInBounds_toArray, List.set_cons_zero, List.set_cons_succ]
            refine wpAnyH_take (i := 6) (v := ?v3) (by simp only [List.getElem?_toArray, List.getElem?_cons_succ, List.getElem?_cons_zero]; rfl) (by kernel_rfl) (by kernel_rfl) (by kernel_rfl) (by exact fun _ _ _ h => h) (Or.inl ⟨by rfl, fun w9 hS9 => ?hy3⟩) hHeld ?rest3
            case hy3 =>
              clear hS9
              go_simp
              try with_reducible rfl
            try simp only [Act.put, List.setIfInBounds_toArray, List.set_cons_zero, List.set_cons_succ]
            refine wpAnyH_ready (rs := [7]) (by kernel_rfl) (by simp) (AllReadyH.cons (by simp only [List.getElem?_toArray, List.getElem?_cons_succ, List.getElem?_cons_zero]; rfl) (fun K hK => ?_) AllReadyH.nil)
            have r1 := (block_cell HK2.out 1).trans rfl
            have r2 := block_frozen HK2.out 1
            go_simp
            refine hK.out _ _ trivial (fun hHeld => ?_)
            clear hK K
            try simp only [Act.put, List.setIfInBounds_toArray, List.set_cons_zero, List.set_cons_succ]
            refine wpAnyH_done (by kernel_rfl) ?_ _
            have HY2 : Hid (∀ u ∈ y ++ [z], 0 ≤ u ∧ u ≤ 255) := Lib.hid (fun u hu => by
              rcases List.mem_append.1 hu with e | e
              · exact HY.out u e
              · rw [List.mem_singleton.1 e]; exact ⟨by omega, by omega⟩)
            go_wp2_with fail
            go_roundw
            case rel => exact ⟨r - 1, p2, m + 1, d2, y ++ [z], by go_num, by omega, HY2.out, GC.out⟩
            case measure => simp [intOf]; omega
          · skip
            go_simp
            refine (below_any b a n c 256 (by omega) (by omega) _ GS.out.dr.1).mono ?_
            rintro e x1 ⟨z, hz0, hz1, rfl, hdz⟩
            have GA := Lib.hid (GS.out.only hdz)
            clear hdz
            go_wp2_with fail
            refine hK.out _ _ trivial (fun hHeld => ?_)
            clear hK K
            try simp only [Act.put, List.setIfInBounds_toArray, List.set_cons_zero, List.set_cons_succ]
            refine wpAnyH_ready (rs := [1, 4]) (by kernel_rfl) (by simp) (AllReadyH.cons (by simp only [List.getElem?_toArray, List.getElem?_cons_succ, List.getElem?_cons_zero]; rfl) (fun K hK => ?_) (AllReadyH.cons (by simp only [List.getElem?_toArray, List.getElem?_cons_succ, List.getElem?_cons_zero]; rfl) (fun K hK => ?_) AllReadyH.nil))
            · skip
              have q1 := (block_cell GA.out.box 1).trans rfl
              go_simp
              refine hK.out _ _ trivial (fun hHeld => ?_)
              clear hK K
              try simp only [Act.put, List.setIfInBounds_toArray, List.set_cons_zero, List.set_cons_succ]
              refine wpAnyH_ready (rs := [4]) (by kernel_rfl) (by simp) (AllReadyH.cons (by simp only [List.getElem?_toArray, List.getElem?_cons_succ, List.getElem?_cons_zero]; rfl) (fun K hK => ?_) AllReadyH.nil)
              have GB := Lib.hid (GA.out.same (alloc_same x1 (.cells #[.int .i64 z] 3)))
              have NB := Lib.hid (nums_new x1 .i64 z 3)
              go_simp
              refine hK.out _ _ trivial (fun hHeld => ?_)
              clear hK K
              try simp only [Act.put, List.setIfInBounds_toArray, List.set_cons_zero, List.set_cons_succ]
              refine wpAnyH_ready (rs := [5]) (by kernel_rfl) (by simp) (AllReadyH.cons (by simp only [List.getElem?_toArray, List.getElem?_cons_succ, List.getElem?_cons_zero]; rfl) (fun K hK => ?_) AllReadyH.nil)
              have hszb := GB.out.lt
              refine step_app3 _ (by rfl) (.tmp 25) (.tmp 28) 26 (by rfl) .i64 3 i1 (.int .i64 0) 8 Try.underlying26 HJ.out.1 HJ.out.2.1 HJ.out.2.2.1 HJ.out.2.2.2 rfl (by rfl) GB.out.own (by rfl) NB.out (by omega) (by omega) (by omega) (by omega) ?_
              intro p2 d2 x2 ho2 hg2 _
              have HK2 := Lib.hid (GB.out.kept hg2)
              have GC := Lib.hid (GB.out.items hg2 ho2)
              clear ho2 hg2
              refine hK.out _ _ trivial (fun hHeld => ?_)
              clear hK K
              try simp only [Act.put, List.setIfInBounds_toArray, List.set_cons_zero, List.set_cons_succ]
              refine wpAnyH_take (i := 6) (v := ?v4) (by simp only [List.getElem?_toArray, List.getElem?_cons_succ, List.getElem?_cons_zero]; rfl) (by kernel_rfl) (by kernel_rfl) (by kernel_rfl) (by exact fun _ _ _ h => h) (Or.inl ⟨by rfl, fun w9 hS9 => ?hy4⟩) hHeld ?rest4
              case hy4 =>
                clear hS9
                go_simp
                try with_reducible rfl
              try simp only [Act.put, List.setIfInBounds_toArray, List.set_cons_zero, List.set_cons_succ]
              refine wpAnyH_ready (rs := [7]) (by kernel_rfl) (by simp) (AllReadyH.cons (by simp only [List.getElem?_toArray, List.getElem?_cons_succ, List.getElem?_cons_zero]; rfl) (fun K hK => ?_) AllReadyH.nil)
              have r1 := (block_cell HK2.out 1).trans rfl
              have r2 := block_frozen HK2.out 1
              go_simp
              refine hK.out _ _ trivial (fun hHeld => ?_)
              clear hK K
              try simp only [Act.put, List.setIfInBounds_toArray, List.set_cons_zero, List.set_cons_succ]
              refine wpAnyH_done (by kernel_rfl) ?_ _
              have HY2 : Hid (∀ u ∈ y ++ [z], 0 ≤ u ∧ u ≤ 255) := Lib.hid (fun u hu => by
                rcases List.mem_append.1 hu with e | e
                · exact HY.out u e
                · rw [List.mem_singleton.1 e]; exact ⟨by omega, by omega⟩)
              go_wp2_with fail
              go_roundw
              case rel => exact ⟨r - 1, p2, m + 1, d2, y ++ [z], by go_num, by omega, HY2.out, GC.out⟩
              case measure => simp [intOf]; omega
            · skip
              have GB := Lib.hid (GA.out.same (alloc_same x1 (.cells #[.int .i64 z] 3)))
              have NB := Lib.hid (nums_new x1 .i64 z 3)
              go_simp
              refine hK.out _ _ trivial (fun hHeld => ?_)
              clear hK K
              try simp only [Act.put, List.setIfInBounds_toArray, List.set_cons_zero, List.set_cons_succ]
              refine wpAnyH_ready (rs := [1]) (by kernel_rfl) (by simp) (AllReadyH.cons (by simp only [List.getElem?_toArray, List.getElem?_cons_succ, List.getElem?_cons_zero]; rfl) (fun K hK => ?_) AllReadyH.nil)
              have q1 := (block_cell GB.out.box 1).trans rfl
              go_simp
              refine hK.out _ _ trivial (fun hHeld => ?_)
              clear hK K
              try simp only [Act.put, List.setIfInBounds_toArray, List.set_cons_zero, List.set_cons_succ]
              refine wpAnyH_ready (rs := [5]) (by kernel_rfl) (by simp) (AllReadyH.cons (by simp only [List.getElem?_toArray, List.getElem?_cons_succ, List.getElem?_cons_zero]; rfl) (fun K hK => ?_) AllReadyH.nil)
              have hszb := GB.out.lt
              refine step_app3 _ (by rfl) (.tmp 25) (.tmp 28) 26 (by rfl) .i64 3 i1 (.int .i64 0) 8 Try.underlying26 HJ.out.1 HJ.out.2.1 HJ.out.2.2.1 HJ.out.2.2.2 rfl (by rfl) GB.out.own (by rfl) NB.out (by omega) (by omega) (by omega) (by omega) ?_
              intro p2 d2 x2 ho2 hg2 _
              have HK2 := Lib.hid (GB.out.kept hg2)
              have GC := Lib.hid (GB.out.items hg2 ho2)
              clear ho2 hg2
              refine hK.out _ _ trivial (fun hHeld => ?_)
              clear hK K
              try simp only [Act.put, List.setIfInBounds_toArray, List.set_cons_zero, List.set_cons_succ]
              refine wpAnyH_take (i := 6) (v := ?v5) (by simp only [List.getElem?_toArray, List.getElem?_cons_succ, List.getElem?_cons_zero]; rfl) (by kernel_rfl) (by kernel_rfl) (by kernel_rfl) (by exact fun _ _ _ h => h) (Or.inl ⟨by rfl, fun w9 hS9 => ?hy5⟩) hHeld ?rest5
              case hy5 =>
                clear hS9
                go_simp
                try with_reducible rfl
              try simp only [Act.put, List.setIfInBounds_toArray, List.set_cons_zero, List.set_cons_succ]
              refine wpAnyH_ready (rs := [7]) (by kernel_rfl) (by simp) (AllReadyH.cons (by simp only [List.getElem?_toArray, List.getElem?_cons_succ, List.getElem?_cons_zero]; rfl) (fun K hK => ?_) AllReadyH.nil)
              have r1 := (block_cell HK2.out 1).trans rfl
              have r2 := block_frozen HK2.out 1
              go_simp
              refine hK.out _ _ trivial (fun hHeld => ?_)
              clear hK K
              try simp only [Act.put, List.setIfInBounds_toArray, List.set_cons_zero, List.set_cons_succ]
              refine wpAnyH_done (by kernel_rfl) ?_ _
              have HY2 : Hid (∀ u ∈ y ++ [z], 0 ≤ u ∧ u ≤ 255) := Lib.hid (fun u hu => by
                rcases List.mem_append.1 hu with e | e
                · exact HY.out u e
                · rw [List.mem_singleton.1 e]; exact ⟨by omega, by omega⟩)
              go_wp2_with fail
              go_roundw
              case rel => exact ⟨r - 1, p2, m + 1, d2, y ++ [z], by go_num, by omega, HY2.out, GC.out⟩
              case measure => simp [intOf]; omega
        · obtain rfl : r = 0 := by omega
          have c0 := (block_cell HG.out.box 0).trans rfl
          have c1 := (block_cell HG.out.box 1).trans rfl
          have hge := HG.out.ge
          have hsz9 := HG.out.dr.2.size
          have KX := Lib.hid (specExtOf_any (c := co) x HG.out.val.ownV.vals)
          obtain ⟨t, ht⟩ : ∃ t, t = extOf v x := ⟨_, rfl⟩
          rw [← ht] at KX
          by_cases ht0 : t < 0
          · have HV5 : Hid (Xok (v ++ [⟨x, y⟩])) := Lib.hid (HV.out.app hxi HY.out (by have := HG.out.own.len; omega) (by rw [← ht]; exact ht0))
            have HNN : Hid (Items Vh.enc 2 (wr.alloc (.cells #[.int .i64 x, .slice p m d] 57)) (some ⟨wr.heap.size, 0, none⟩) 1 [⟨x, p, m, d⟩]) := Lib.hid (items_new Vh.enc_len wr ⟨x, p, m, d⟩ 57)
            have HFF : Hid (∀ ad, p = some ad → g ≤ ad.block) := Lib.hid (fun ad e => by
              have := (HG.out.own.span ad e).1
              omega)
            have HOX : Hid (Own .i64 3 (wr.alloc (.cells #[.int .i64 x, .slice p m d] 57)) w.heap.size p m d y) := Lib.hid ((HG.out.own.lower (by omega)).alloc _)
            clear ht
            go_wp2_with (first | (go_at_call 75; refine KX.out.mono ?_; rintro e w' ⟨rfl, rfl⟩) | (at_builtin; refine wpl_appV _ rfl (.tmp 36) (.tmp 38) 24 rfl 57 3 i0 (.agg #[.int .i64 0, .slice none 0 0]) 32 Try.underlying24 HI.out.1 HI.out.2.1 HI.out.2.2.1 HI.out.2.2.2 rfl rfl (HG.out.val.same (alloc_same _ _)) rfl HNN.out HOX.out HFF.out (by omega) ?c4 ?c5 ?_))
            case c4 => omega
            case c5 => simp; omega
            intro a5 c5 w5 ho5 hb5
            have HO5 := Lib.hid ho5
            have HD5 : Hid (Drawn b a n c w w5) := Lib.hid (HG.out.dr.under HC.out (((alloc_same _ _).mono hsz9).trans hb5) (Nat.le_refl _))
            clear ho5 hb5 c0 c1
            go_wp2_with fail
            go_roundw
            case rel => exact ⟨q - 1, a5, no + 1, c5, _, rfl, by go_num, by omega, HO5.out, HV5.out, HD5.out⟩
            case measure => simp [intOf]; omega
          · clear ht
            go_wp2_with (go_at_call 75; refine KX.out.mono ?_; rintro e w' ⟨rfl, rfl⟩)
            go_roundw
            case rel => exact ⟨q - 1, ao, no, co, v, rfl, by go_num, by omega, HG.out.val.ownV, HV.out, HG.out.dr⟩
            case measure => simp [intOf]; omega
    · obtain rfl : q = 0 := by omega
      go_wp2_with fail
      go_ret
      exact ⟨_, _, _, _, rfl, HO.out, by omega, HV.out, HD.out⟩
end Go.Proofs.Ytgkacnngodamgaa
namespace Go.Proofs.Ytgkacnngodamgaa
open Go.ChangeShapes Go.WideShapes Go.ChangeAt Go.RowKit
set_option linter.unusedVariables false
set_option linter.unusedSimpArgs false

theorem Drawn.row {b : Nat} {a : Option Addr} {n c : Nat} {w X X' : World} {row : Option Nat} (h : Drawn b a n c w X) (cu : Curs w b a n c) (hg : X.grownBy X' row) (hr : ∀ r, row = some r → w.heap.size ≤ r) : Drawn b a n c w X' :=
  h.under cu ((Below.refl _ X).grown hg h.2.size hr) (Nat.le_refl _)
/-- A list of extensions while it is drawn: its rows, and the cursor. -/
structure TwoE (b : Nat) (a : Option Addr) (n c : Nat) (w : World) (g m co : Nat) (hs : List Vh) (v : List Vl) (X : World) : Prop where
  cu : Curs w b a n c
  dr : Drawn b a n c w X
  own : OwnI Vh.enc 2 57 X w.heap.size (some ⟨g, 0, none⟩) m co hs
  row : RowsV 3 X w.heap.size (some ⟨g, 0, none⟩) hs v
section
variable {b : Nat} {a : Option Addr} {n c : Nat} {w : World} {X X' : World} {g m co : Nat} {hs : List Vh} {v : List Vl}
theorem TwoE.ownV (h : TwoE b a n c w g m co hs v X) : OwnV 57 3 X w.heap.size (some ⟨g, 0, none⟩) m co v := ⟨hs, h.own, h.row⟩
theorem TwoE.only (h : TwoE b a n c w g m co hs v X) (hd : Drawn b a n c X X') : TwoE b a n c w g m co hs v X' := by
  have hb := h.cu.lt
  exact ⟨h.cu, h.dr.trans hd, h.own.only hd.2 h.own.span (Or.inl (by omega)), h.row.1, fun j q x hq hx => by
    obtain ⟨e, ho, hdd⟩ := h.row.2.1 j q x hq hx
    exact ⟨e, ho.far (only_grown hd.2) (fun ad e2 q2 => by
      have := (ho.span ad e2).1
      cases q2
      omega), hdd⟩, h.row.2.2⟩
theorem TwoE.same (h : TwoE b a n c w g m co hs v X) (hb : Below X.heap.size X X') : TwoE b a n c w g m co hs v X' := ⟨h.cu, h.dr.same hb, h.own.same hb, h.row.same hb⟩
theorem TwoE.hdr (h : TwoE b a n c w g m co hs v X) {k : Nat} {u : Vh} (hk : hs[k]? = some u) : X.cell? ⟨g, k * 2 + 1, none⟩ = some (.slice u.p u.m u.c) := by
  obtain ⟨bb, o, e, hc⟩ := (h.own.items Vh.enc_len).cell k u hk
  cases e
  have := hc 1 _ rfl
  rw [Nat.zero_add] at this
  exact this
theorem TwoE.tag (h : TwoE b a n c w g m co hs v X) {k : Nat} {u : Vh} (hk : hs[k]? = some u) : X.cell? ⟨g, k * 2, none⟩ = some (.int .i64 u.num) := by
  obtain ⟨bb, o, e, hc⟩ := (h.own.items Vh.enc_len).cell k u hk
  cases e
  have := hc 0 _ rfl
  rw [Nat.zero_add] at this
  exact this
theorem TwoE.ge2 (h : TwoE b a n c w g m co hs v X) : w.heap.size ≤ g := (h.own.span _ rfl).1
/-- The rows of the list, behind an append onto one body. -/
theorem TwoE.kept (h : TwoE b a n c w g m co hs v X) {k : Nat} {u : Vh} {x : Vl} (hk : hs[k]? = some u) (hx : v[k]? = some x) (hg : X.grownBy X' (Value.ownBlock (.slice u.p u.m u.c))) : OwnI Vh.enc 2 57 X' w.heap.size (some ⟨g, 0, none⟩) m co hs ∧ Drawn b a n c w X' := by
  obtain ⟨_, ho, hd⟩ := h.row.2.1 k u x hk hx
  have hrow : ∀ ad, Value.ownBlock (.slice u.p u.m u.c) = some ad → ∃ bd, u.p = some bd ∧ bd.block = ad := fun ad e => by
    cases hvp : u.p with
    | none => rw [hvp] at e; simp [Value.ownBlock] at e
    | some bd => rw [hvp] at e; simp only [Value.ownBlock, Option.some.injEq] at e; exact ⟨bd, rfl, e⟩
  exact ⟨h.own.far hg fun ad e e2 => by
    cases e
    obtain ⟨bd, hb, hbb⟩ := hrow _ e2
    exact hd bd _ hb rfl hbb, h.dr.row h.cu hg fun r e => by
    obtain ⟨bd, hb, hbb⟩ := hrow _ e
    rw [← hbb]
    exact (ho.span bd hb).1⟩
end
/-- What a draw of a list of extensions leaves. -/
def DrewE (b : Nat) (a : Option Addr) (n c : Nat) (w : World) (e : Ending) (w' : World) : Prop :=
  ∃ (ao : Option Addr) (m co : Nat) (v : List Vl), e = .returned (.slice ao m co) ∧ OwnV 57 3 w' w.heap.size ao m co v ∧ m ≤ 6 ∧ Vok 5 v ∧ Drawn b a n c w w'

set_option maxHeartbeats 8000000 in
set_option maxRecDepth 100000 in
theorem anyE_any (b : Nat) (a : Option Addr) (n c : Nat) (w : World) (hc : Curs w b a n c) :
    Calls Try.prog 54 #[.pointer (some ⟨b, 0, none⟩)] w (DrewE b a n c w) := by
  have HC := Lib.hid hc
  have hb := hc.lt
  clear hc
  obtain ⟨i0, hi, hz0, hz1, hz2⟩ := info_parts infoExtS
  have HI := Lib.hid (And.intro hi (And.intro hz0 (And.intro hz1 hz2)))
  clear hi hz0 hz1 hz2
  obtain ⟨i1, hi, hz0, hz1, hz2⟩ := info_parts infoIntS
  have HJ := Lib.hid (And.intro hi (And.intro hz0 (And.intro hz1 hz2)))
  clear hi hz0 hz1 hz2
  go_enter Try.func54, Try.ntmps54
  go_wp2_with fail
  refine (drawE_any b a n c w HC.out).mono ?_
  rintro e w2 ⟨ao, m, co, v, rfl, ho2, hm5, hv2, hd2⟩
  have HVK := Lib.hid (hv2.vok.mono (show 4 ≤ 5 by omega))
  have HVK4 := Lib.hid hv2.vok
  clear hv2
  by_cases hm0 : m = 0
  · have HO2 := Lib.hid ho2
    have HD2 := Lib.hid hd2
    clear ho2 hd2
    subst hm0
    go_wp2_with fail
    go_ret
    exact ⟨_, _, _, v, rfl, HO2.out, by omega, HVK.out, HD2.out⟩
  obtain ⟨hs, hI2, hR2⟩ := ho2
  obtain ⟨g, rfl, hg1, hg2⟩ := hI2.head (by omega)
  have hT2 : TwoE b a n c w g m co hs v w2 := ⟨HC.out, hd2, hI2, hR2⟩
  have hlen : v.length = m := by rw [← hR2.1, hI2.len]
  have HLN := Lib.hid hlen
  have HTW := Lib.hid hT2
  have hmi : ((m : Int) == 0) = false := by simp; omega
  clear hd2 hI2 hR2 hT2 hlen
  go_wp2_with fail
  refine (below_any b a n c (m : Int) (by omega) (by omega) w2 HTW.out.dr.1).mono ?_
  rintro e w3 ⟨x, hx0, hx1, rfl, hd3⟩
  obtain ⟨k, rfl⟩ : ∃ k : Nat, x = k := ⟨x.toNat, by omega⟩
  have hkm : k < m := by omega
  replace HTW := Lib.hid (HTW.out.only hd3)
  clear hd3
  go_wp2_with fail
  refine (below_any b a n c 9 (by omega) (by omega) w3 HTW.out.dr.1).mono ?_
  rintro e w4 ⟨y, hy0, hy1, rfl, hd4⟩
  replace HTW := Lib.hid (HTW.out.only hd4)
  clear hd4
  have hgB := HTW.out.ge2
  obtain ⟨vx, hvx⟩ : ∃ vx, v[k]? = some vx := ⟨_, List.getElem?_eq_getElem (by rw [HLN.out]; exact hkm)⟩
  obtain ⟨⟨hn, hp, hm, hcc⟩, hhk⟩ : ∃ u : Vh, hs[k]? = some u := ⟨_, List.getElem?_eq_getElem (by rw [HTW.out.row.1, HLN.out]; exact hkm)⟩
  have HVX := Lib.hid hvx
  have HHK := Lib.hid hhk
  have hokx := HVK4.out vx (List.mem_of_getElem? hvx)
  have HOX := Lib.hid hokx
  clear hvx hhk hokx
  by_cases q0 : y = 0
  · have b0 : (y == 0) = true := by simpa using q0
    clear q0
    go_wp2_with fail
    refine (pickNew b a n c [-1, 0, 255, 256] 4 (by omega) (by omega) rfl rfl w4 HTW.out.dr.1).mono ?_
    rintro e w5 ⟨z, hz, rfl, hd5⟩
    have hzi : I64 z := list_i64 (l := [-1, 0, 255, 256]) (by decide) hz
    have HT5 := Lib.hid (HTW.out.only hd5)
    have fz := HT5.out.own.2.frozenAt (k * 2)
    obtain ⟨u, hu⟩ := row_cell HT5.out.own.2 (k := k * 2) (by omega)
    have hpn := HT5.out.ownV.putNum HVX.out z
    have HPV := Lib.hid hpn.1
    have HPF := Lib.hid (HT5.out.dr.row HC.out hpn.2 (fun r e => by cases e; exact hgB))
    have HVK2 := Lib.hid (HVK.out.set k hzi HOX.out.1.2 (Nat.le_trans HOX.out.2 (by omega)))
    clear hd5 hz hpn
    go_wp2_with fail
    go_ret
    exact ⟨_, _, _, _, rfl, HPV.out, by omega, HVK2.out, HPF.out⟩
  have b0 : (y == 0) = false := by simpa using q0
  by_cases q1 : y = 1
  · have b1 : (y == 1) = true := by simpa using q1
    clear q1
    go_wp2_with fail
    have HTW0 := Lib.hid (HTW.out.same (Below.refl _ w4).drew)
    refine wp_region_held_drew (S := fun _ => True) (by kernel_rfl) trivial (fun hHeld => ?_)
    refine wpAnyH_take (i := 0) (v := ?v1) (by simp only [List.getElem?_toArray, List.getElem?_cons_succ, List.getElem?_cons_zero]; rfl) (by kernel_rfl) (by kernel_rfl) (by kernel_rfl) (by exact fun _ _ _ h => h) (Or.inl ⟨by rfl, fun w9 hS9 => ?hy1⟩) hHeld ?rest1
    case hy1 =>
      clear hS9
      go_simp
      try with_reducible rfl
    try simp only [Act.put, List.setIfInBounds_toArray, List.set_cons_zero, List.set_cons_succ]
    refine wpAnyH_take (i := 1) (v := ?v2) (by simp only [List.getElem?_toArray, List.getElem?_cons_succ, List.getElem?_cons_zero]; rfl) (by kernel_rfl) (by kernel_rfl) (by kernel_rfl) (by exact fun _ _ _ h => h) (Or.inl ⟨by rfl, fun w9 hS9 => ?hy2⟩) hHeld ?rest2
    case hy2 =>
      clear hS9
      go_simp
      try with_reducible rfl
    try simp only [Act.put, List.setIfInBounds_toArray, List.set_cons_zero, List.set_cons_succ]
    refine wpAnyH_take (i := 2) (v := ?v3) (by simp only [List.getElem?_toArray, List.getElem?_cons_succ, List.getElem?_cons_zero]; rfl) (by kernel_rfl) (by kernel_rfl) (by kernel_rfl) (by exact fun _ _ _ h => h) (Or.inl ⟨by rfl, fun w9 hS9 => ?hy3⟩) hHeld ?rest3
    case hy3 =>
      clear hS9
      go_simp
      try with_reducible rfl
    try simp only [Act.put, List.setIfInBounds_toArray, List.set_cons_zero, List.set_cons_succ]
    refine wpAnyH_take (i := 3) (v := ?v4) (by simp only [List.getElem?_toArray, List.getElem?_cons_succ, List.getElem?_cons_zero]; rfl) (by kernel_rfl) (by kernel_rfl) (by kernel_rfl) (by exact fun _ _ _ h => h) (Or.inl ⟨by rfl, fun w9 hS9 => ?hy4⟩) hHeld ?rest4
    case hy4 =>
      clear hS9
      go_simp
      try with_reducible rfl
    try simp only [Act.put, List.setIfInBounds_toArray, List.set_cons_zero, List.set_cons_succ]
    refine wpAnyH_take (i := 4) (v := ?v5) (by simp only [List.getElem?_toArray, List.getElem?_cons_succ, List.getElem?_cons_zero]; rfl) (by kernel_rfl) (by kernel_rfl) (by kernel_rfl) (by exact fun _ _ _ h => h) (Or.inl ⟨by rfl, fun w9 hS9 => ?hy5⟩) hHeld ?rest5
    case hy5 =>
      clear hS9
      go_simp
      try with_reducible rfl
    try simp only [Act.put, List.setIfInBounds_toArray, List.set_cons_zero, List.set_cons_succ]
    refine wpAnyH_take (i := 5) (v := ?v6) (by simp only [List.getElem?_toArray, List.getElem?_cons_succ, List.getElem?_cons_zero]; rfl) (by kernel_rfl) (by kernel_rfl) (by kernel_rfl) (by exact fun _ _ _ h => h) (Or.inl ⟨by rfl, fun w9 hS9 => ?hy6⟩) hHeld ?rest6
    case hy6 =>
      clear hS9
      go_simp
      try with_reducible rfl
    try simp only [Act.put, List.setIfInBounds_toArray, List.set_cons_zero, List.set_cons_succ]
    refine wpAnyH_take (i := 7) (v := ?v7) (by simp only [List.getElem?_toArray, List.getElem?_cons_succ, List.getElem?_cons_zero]; rfl) (by kernel_rfl) (by kernel_rfl) (by kernel_rfl) (by exact fun _ _ _ h => h) (Or.inl ⟨by rfl, fun w9 hS9 => ?hy7⟩) hHeld ?rest7
    case hy7 =>
      clear hS9
      go_simp
      try with_reducible rfl
    try simp only [Act.put, List.setIfInBounds_toArray, List.set_cons_zero, List.set_cons_succ]
    refine wpAnyH_ready (rs := [6, 8]) (by kernel_rfl) (by simp) (AllReadyH.cons (by simp only [List.getElem?_toArray, List.getElem?_cons_succ, List.getElem?_cons_zero]; rfl) (fun K hK => ?_) (AllReadyH.cons (by simp only [List.getElem?_toArray, List.getElem?_cons_succ, List.getElem?_cons_zero]; rfl) (fun K hK => ?_) AllReadyH.nil))
    · skip
      have q1 := HTW0.out.hdr HHK.out
      dsimp only at q1
      go_simp
      refine hK.out _ _ trivial (fun hHeld => ?_)
      clear hK K
      try simp only [Act.put, List.setIfInBounds_toArray, List.set_cons_zero, List.set_cons_succ]
      refine wpAnyH_ready (rs := [8]) (by kernel_rfl) (by simp) (AllReadyH.cons (by simp only [List.getElem?_toArray, List.getElem?_cons_succ, List.getElem?_cons_zero]; rfl) (fun K hK => ?_) AllReadyH.nil)
      have TA := Lib.hid (HTW0.out.same (alloc_same w4.drew (.cells #[.int .i64 (-1), .int .i64 255, .int .i64 256] 3)))
      go_simp
      refine hK.out _ _ trivial (fun hHeld => ?_)
      clear hK K
      try simp only [Act.put, List.setIfInBounds_toArray, List.set_cons_zero, List.set_cons_succ]
      refine wpAnyH_ready (rs := [9]) (by kernel_rfl) (by simp) (AllReadyH.cons (by simp only [List.getElem?_toArray, List.getElem?_cons_succ, List.getElem?_cons_zero]; rfl) (fun K hK => ?_) AllReadyH.nil)
      go_simp
      refine (pickNew b a n c [-1, 255, 256] 3 (by omega) (by omega) rfl rfl w4.drew HTW0.out.dr.1).mono ?_
      rintro e x1 ⟨z, hz, rfl, hdz⟩
      have hzi : I64 z := list_i64 (l := [-1, 255, 256]) (by decide) hz
      have TB := Lib.hid (HTW0.out.only hdz)
      clear hdz hz
      go_wp2_with fail
      refine hK.out _ _ trivial (fun hHeld => ?_)
      clear hK K
      try simp only [Act.put, List.setIfInBounds_toArray, List.set_cons_zero, List.set_cons_succ]
      refine wpAnyH_ready (rs := [10]) (by kernel_rfl) (by simp) (AllReadyH.cons (by simp only [List.getElem?_toArray, List.getElem?_cons_succ, List.getElem?_cons_zero]; rfl) (fun K hK => ?_) AllReadyH.nil)
      have TC := Lib.hid (TB.out.same (alloc_same x1 (.cells #[.int .i64 z] 3)))
      have NB := Lib.hid (nums_new x1 .i64 z 3)
      go_simp
      refine hK.out _ _ trivial (fun hHeld => ?_)
      clear hK K
      try simp only [Act.put, List.setIfInBounds_toArray, List.set_cons_zero, List.set_cons_succ]
      refine wpAnyH_ready (rs := [11]) (by kernel_rfl) (by simp) (AllReadyH.cons (by simp only [List.getElem?_toArray, List.getElem?_cons_succ, List.getElem?_cons_zero]; rfl) (fun K hK => ?_) AllReadyH.nil)
      have ho := (TC.out.row.2.1 k _ vx HHK.out HVX.out).2.1
      dsimp only at ho
      have hol := ho.len
      have hszb := TC.out.own.span _ rfl
      dsimp only at hszb
      have HOI := Lib.hid ho
      have hox := HOX.out.2
      clear ho
      refine step_app3 _ (by rfl) (.tmp 34) (.tmp 38) 26 (by rfl) .i64 3 i1 (.int .i64 0) 8 Try.underlying26 HJ.out.1 HJ.out.2.1 HJ.out.2.2.1 HJ.out.2.2.2 rfl (by rfl) HOI.out (by rfl) NB.out (by omega) (by omega) (by omega) (by omega) ?_
      intro p2 d2 x2 ho2 hg2 hw2
      have HK2 := Lib.hid (TC.out.kept HHK.out HVX.out hg2)
      have hpi := OwnV.putItems TC.out.ownV HVX.out TC.out.own TC.out.row HHK.out hg2 ho2 (fun ad e => by
        rcases hw2 ad e with q | q
        · exact Or.inl q
        · exact Or.inr (by omega))
      have HPV := Lib.hid hpi.1
      have HPF := Lib.hid (HK2.out.2.row HC.out hpi.2 (fun r e => by cases e; exact hgB))
      have HVK2 := Lib.hid (HVK.out.set k HOX.out.1.1 (y := vx.items ++ [z]) (fun u hu => by
        rcases List.mem_append.1 hu with e | e
        · exact HOX.out.1.2 u e
        · rw [List.mem_singleton.1 e]; exact hzi) (by rw [List.length_append]; simp; omega))
      clear ho2 hg2 hw2 hpi
      refine hK.out _ _ trivial (fun hHeld => ?_)
      clear hK K
      try simp only [Act.put, List.setIfInBounds_toArray, List.set_cons_zero, List.set_cons_succ]
      refine wpAnyH_take (i := 12) (v := ?v8) (by simp only [List.getElem?_toArray, List.getElem?_cons_succ, List.getElem?_cons_zero]; rfl) (by kernel_rfl) (by kernel_rfl) (by kernel_rfl) (by exact fun _ _ _ h => h) (Or.inl ⟨by rfl, fun w9 hS9 => ?hy8⟩) hHeld ?rest8
      case hy8 =>
        clear hS9
        go_simp
        try with_reducible rfl
      try simp only [Act.put, List.setIfInBounds_toArray, List.set_cons_zero, List.set_cons_succ]
      refine wpAnyH_take (i := 13) (v := ?v9) (by simp only [List.getElem?_toArray, List.getElem?_cons_succ, List.getElem?_cons_zero]; rfl) (by kernel_rfl) (by kernel_rfl) (by kernel_rfl) (by exact fun _ _ _ h => h) (Or.inl ⟨by rfl, fun w9 hS9 => ?hy9⟩) hHeld ?rest9
      case hy9 =>
        clear hS9
        go_simp
        try with_reducible rfl
      try simp only [Act.put, List.setIfInBounds_toArray, List.set_cons_zero, List.set_cons_succ]
      refine wpAnyH_ready (rs := [14]) (by kernel_rfl) (by simp) (AllReadyH.cons (by simp only [List.getElem?_toArray, List.getElem?_cons_succ, List.getElem?_cons_zero]; rfl) (fun K hK => ?_) AllReadyH.nil)
      have r1 := HK2.out.1.2.frozenAt (k * 2 + 1)
      obtain ⟨u9, hu9⟩ := row_cell HK2.out.1.2 (k := k * 2 + 1) (by omega)
      go_simp
      refine hK.out _ _ trivial (fun hHeld => ?_)
      clear hK K
      try simp only [Act.put, List.setIfInBounds_toArray, List.set_cons_zero, List.set_cons_succ]
      refine wpAnyH_done (by kernel_rfl) ?_ _
      go_wp2_with fail
      go_ret
      exact ⟨_, _, _, _, rfl, HPV.out, by omega, HVK2.out, HPF.out⟩
    · skip
      have TA := Lib.hid (HTW0.out.same (alloc_same w4.drew (.cells #[.int .i64 (-1), .int .i64 255, .int .i64 256] 3)))
      go_simp
      refine hK.out _ _ trivial (fun hHeld => ?_)
      clear hK K
      try simp only [Act.put, List.setIfInBounds_toArray, List.set_cons_zero, List.set_cons_succ]
      refine wpAnyH_ready (rs := [6, 9]) (by kernel_rfl) (by simp) (AllReadyH.cons (by simp only [List.getElem?_toArray, List.getElem?_cons_succ, List.getElem?_cons_zero]; rfl) (fun K hK => ?_) (AllReadyH.cons (by simp only [List.getElem?_toArray, List.getElem?_cons_succ, List.getElem?_cons_zero]; rfl) (fun K hK => ?_) AllReadyH.nil))
      · skip
        have q1 : (w4.alloc (.cells #[.int .i64 (-1), .int .i64 255, .int .i64 256] 3)).cell? ⟨g, k * 2 + 1, none⟩ = some (.slice hp hm hcc) := TA.out.hdr HHK.out
        go_simp
        refine hK.out _ _ trivial (fun hHeld => ?_)
        clear hK K
        try simp only [Act.put, List.setIfInBounds_toArray, List.set_cons_zero, List.set_cons_succ]
        refine wpAnyH_ready (rs := [9]) (by kernel_rfl) (by simp) (AllReadyH.cons (by simp only [List.getElem?_toArray, List.getElem?_cons_succ, List.getElem?_cons_zero]; rfl) (fun K hK => ?_) AllReadyH.nil)
        go_simp
        refine (pickNew b a n c [-1, 255, 256] 3 (by omega) (by omega) rfl rfl w4.drew HTW0.out.dr.1).mono ?_
        rintro e x1 ⟨z, hz, rfl, hdz⟩
        have hzi : I64 z := list_i64 (l := [-1, 255, 256]) (by decide) hz
        have TB := Lib.hid (HTW0.out.only hdz)
        clear hdz hz
        go_wp2_with fail
        refine hK.out _ _ trivial (fun hHeld => ?_)
        clear hK K
        try simp only [Act.put, List.setIfInBounds_toArray, List.set_cons_zero, List.set_cons_succ]
        refine wpAnyH_ready (rs := [10]) (by kernel_rfl) (by simp) (AllReadyH.cons (by simp only [List.getElem?_toArray, List.getElem?_cons_succ, List.getElem?_cons_zero]; rfl) (fun K hK => ?_) AllReadyH.nil)
        have TC := Lib.hid (TB.out.same (alloc_same x1 (.cells #[.int .i64 z] 3)))
        have NB := Lib.hid (nums_new x1 .i64 z 3)
        go_simp
        refine hK.out _ _ trivial (fun hHeld => ?_)
        clear hK K
        try simp only [Act.put, List.setIfInBounds_toArray, List.set_cons_zero, List.set_cons_succ]
        refine wpAnyH_ready (rs := [11]) (by kernel_rfl) (by simp) (AllReadyH.cons (by simp only [List.getElem?_toArray, List.getElem?_cons_succ, List.getElem?_cons_zero]; rfl) (fun K hK => ?_) AllReadyH.nil)
        have ho := (TC.out.row.2.1 k _ vx HHK.out HVX.out).2.1
        dsimp only at ho
        have hol := ho.len
        have hszb := TC.out.own.span _ rfl
        dsimp only at hszb
        have HOI := Lib.hid ho
        have hox := HOX.out.2
        clear ho
        refine step_app3 _ (by rfl) (.tmp 34) (.tmp 38) 26 (by rfl) .i64 3 i1 (.int .i64 0) 8 Try.underlying26 HJ.out.1 HJ.out.2.1 HJ.out.2.2.1 HJ.out.2.2.2 rfl (by rfl) HOI.out (by rfl) NB.out (by omega) (by omega) (by omega) (by omega) ?_
        intro p2 d2 x2 ho2 hg2 hw2
        have HK2 := Lib.hid (TC.out.kept HHK.out HVX.out hg2)
        have hpi := OwnV.putItems TC.out.ownV HVX.out TC.out.own TC.out.row HHK.out hg2 ho2 (fun ad e => by
          rcases hw2 ad e with q | q
          · exact Or.inl q
          · exact Or.inr (by omega))
        have HPV := Lib.hid hpi.1
        have HPF := Lib.hid (HK2.out.2.row HC.out hpi.2 (fun r e => by cases e; exact hgB))
        have HVK2 := Lib.hid (HVK.out.set k HOX.out.1.1 (y := vx.items ++ [z]) (fun u hu => by
          rcases List.mem_append.1 hu with e | e
          · exact HOX.out.1.2 u e
          · rw [List.mem_singleton.1 e]; exact hzi) (by rw [List.length_append]; simp; omega))
        clear ho2 hg2 hw2 hpi
        refine hK.out _ _ trivial (fun hHeld => ?_)
        clear hK K
        try simp only [Act.put, List.setIfInBounds_toArray, List.set_cons_zero, List.set_cons_succ]
        refine wpAnyH_take (i := 12) (v := ?v10) (by simp only [List.getElem?_toArray, List.getElem?_cons_succ, List.getElem?_cons_zero]; rfl) (by kernel_rfl) (by kernel_rfl) (by kernel_rfl) (by exact fun _ _ _ h => h) (Or.inl ⟨by rfl, fun w9 hS9 => ?hy10⟩) hHeld ?rest10
        case hy10 =>
          clear hS9
          go_simp
          try with_reducible rfl
        try simp only [Act.put, List.setIfInBounds_toArray, List.set_cons_zero, List.set_cons_succ]
        refine wpAnyH_take (i := 13) (v := ?v11) (by simp only [List.getElem?_toArray, List.getElem?_cons_succ, List.getElem?_cons_zero]; rfl) (by kernel_rfl) (by kernel_rfl) (by kernel_rfl) (by exact fun _ _ _ h => h) (Or.inl ⟨by rfl, fun w9 hS9 => ?hy11⟩) hHeld ?rest11
        case hy11 =>
          clear hS9
          go_simp
          try with_reducible rfl
        try simp only [Act.put, List.setIfInBounds_toArray, List.set_cons_zero, List.set_cons_succ]
        refine wpAnyH_ready (rs := [14]) (by kernel_rfl) (by simp) (AllReadyH.cons (by simp only [List.getElem?_toArray, List.getElem?_cons_succ, List.getElem?_cons_zero]; rfl) (fun K hK => ?_) AllReadyH.nil)
        have r1 := HK2.out.1.2.frozenAt (k * 2 + 1)
        obtain ⟨u9, hu9⟩ := row_cell HK2.out.1.2 (k := k * 2 + 1) (by omega)
        go_simp
        refine hK.out _ _ trivial (fun hHeld => ?_)
        clear hK K
        try simp only [Act.put, List.setIfInBounds_toArray, List.set_cons_zero, List.set_cons_succ]
        refine wpAnyH_done (by kernel_rfl) ?_ _
        go_wp2_with fail
        go_ret
        exact ⟨_, _, _, _, rfl, HPV.out, by omega, HVK2.out, HPF.out⟩
      · skip
        go_simp
        refine (pickNew b a n c [-1, 255, 256] 3 (by omega) (by omega) rfl rfl w4.drew HTW0.out.dr.1).mono ?_
        rintro e x1 ⟨z, hz, rfl, hdz⟩
        have hzi : I64 z := list_i64 (l := [-1, 255, 256]) (by decide) hz
        have TB := Lib.hid (HTW0.out.only hdz)
        clear hdz hz
        go_wp2_with fail
        refine hK.out _ _ trivial (fun hHeld => ?_)
        clear hK K
        try simp only [Act.put, List.setIfInBounds_toArray, List.set_cons_zero, List.set_cons_succ]
        refine wpAnyH_ready (rs := [6, 10]) (by kernel_rfl) (by simp) (AllReadyH.cons (by simp only [List.getElem?_toArray, List.getElem?_cons_succ, List.getElem?_cons_zero]; rfl) (fun K hK => ?_) (AllReadyH.cons (by simp only [List.getElem?_toArray, List.getElem?_cons_succ, List.getElem?_cons_zero]; rfl) (fun K hK => ?_) AllReadyH.nil))
        · skip
          have q1 := TB.out.hdr HHK.out
          dsimp only at q1
          go_simp
          refine hK.out _ _ trivial (fun hHeld => ?_)
          clear hK K
          try simp only [Act.put, List.setIfInBounds_toArray, List.set_cons_zero, List.set_cons_succ]
          refine wpAnyH_ready (rs := [10]) (by kernel_rfl) (by simp) (AllReadyH.cons (by simp only [List.getElem?_toArray, List.getElem?_cons_succ, List.getElem?_cons_zero]; rfl) (fun K hK => ?_) AllReadyH.nil)
          have TC := Lib.hid (TB.out.same (alloc_same x1 (.cells #[.int .i64 z] 3)))
          have NB := Lib.hid (nums_new x1 .i64 z 3)
          go_simp
          refine hK.out _ _ trivial (fun hHeld => ?_)
          clear hK K
          try simp only [Act.put, List.setIfInBounds_toArray, List.set_cons_zero, List.set_cons_succ]
          refine wpAnyH_ready (rs := [11]) (by kernel_rfl) (by simp) (AllReadyH.cons (by simp only [List.getElem?_toArray, List.getElem?_cons_succ, List.getElem?_cons_zero]; rfl) (fun K hK => ?_) AllReadyH.nil)
          have ho := (TC.out.row.2.1 k _ vx HHK.out HVX.out).2.1
          dsimp only at ho
          have hol := ho.len
          have hszb := TC.out.own.span _ rfl
          dsimp only at hszb
          have HOI := Lib.hid ho
          have hox := HOX.out.2
          clear ho
          refine step_app3 _ (by rfl) (.tmp 34) (.tmp 38) 26 (by rfl) .i64 3 i1 (.int .i64 0) 8 Try.underlying26 HJ.out.1 HJ.out.2.1 HJ.out.2.2.1 HJ.out.2.2.2 rfl (by rfl) HOI.out (by rfl) NB.out (by omega) (by omega) (by omega) (by omega) ?_
          intro p2 d2 x2 ho2 hg2 hw2
          have HK2 := Lib.hid (TC.out.kept HHK.out HVX.out hg2)
          have hpi := OwnV.putItems TC.out.ownV HVX.out TC.out.own TC.out.row HHK.out hg2 ho2 (fun ad e => by
            rcases hw2 ad e with q | q
            · exact Or.inl q
            · exact Or.inr (by omega))
          have HPV := Lib.hid hpi.1
          have HPF := Lib.hid (HK2.out.2.row HC.out hpi.2 (fun r e => by cases e; exact hgB))
          have HVK2 := Lib.hid (HVK.out.set k HOX.out.1.1 (y := vx.items ++ [z]) (fun u hu => by
            rcases List.mem_append.1 hu with e | e
            · exact HOX.out.1.2 u e
            · rw [List.mem_singleton.1 e]; exact hzi) (by rw [List.length_append]; simp; omega))
          clear ho2 hg2 hw2 hpi
          refine hK.out _ _ trivial (fun hHeld => ?_)
          clear hK K
          try simp only [Act.put, List.setIfInBounds_toArray, List.set_cons_zero, List.set_cons_succ]
          refine wpAnyH_take (i := 12) (v := ?v12) (by simp only [List.getElem?_toArray, List.getElem?_cons_succ, List.getElem?_cons_zero]; rfl) (by kernel_rfl) (by kernel_rfl) (by kernel_rfl) (by exact fun _ _ _ h => h) (Or.inl ⟨by rfl, fun w9 hS9 => ?hy12⟩) hHeld ?rest12
          case hy12 =>
            clear hS9
            go_simp
            try with_reducible rfl
          try simp only [Act.put, List.setIfInBounds_toArray, List.set_cons_zero, List.set_cons_succ]
          refine wpAnyH_take (i := 13) (v := ?v13) (by simp only [List.getElem?_toArray, List.getElem?_cons_succ, List.getElem?_cons_zero]; rfl) (by kernel_rfl) (by kernel_rfl) (by kernel_rfl) (by exact fun _ _ _ h => h) (Or.inl ⟨by rfl, fun w9 hS9 => ?hy13⟩) hHeld ?rest13
          case hy13 =>
            clear hS9
            go_simp
            try with_reducible rfl
          try simp only [Act.put, List.setIfInBounds_toArray, List.set_cons_zero, List.set_cons_succ]
          refine wpAnyH_ready (rs := [14]) (by kernel_rfl) (by simp) (AllReadyH.cons (by simp only [List.getElem?_toArray, List.getElem?_cons_succ, List.getElem?_cons_zero]; rfl) (fun K hK => ?_) AllReadyH.nil)
          have r1 := HK2.out.1.2.frozenAt (k * 2 + 1)
          obtain ⟨u9, hu9⟩ := row_cell HK2.out.1.2 (k := k * 2 + 1) (by omega)
          go_simp
          refine hK.out _ _ trivial (fun hHeld => ?_)
          clear hK K
          try simp only [Act.put, List.setIfInBounds_toArray, List.set_cons_zero, List.set_cons_succ]
          refine wpAnyH_done (by kernel_rfl) ?_ _
          go_wp2_with fail
          go_ret
          exact ⟨_, _, _, _, rfl, HPV.out, by omega, HVK2.out, HPF.out⟩
        · skip
          have TC := Lib.hid (TB.out.same (alloc_same x1 (.cells #[.int .i64 z] 3)))
          have NB := Lib.hid (nums_new x1 .i64 z 3)
          go_simp
          refine hK.out _ _ trivial (fun hHeld => ?_)
          clear hK K
          try simp only [Act.put, List.setIfInBounds_toArray, List.set_cons_zero, List.set_cons_succ]
          refine wpAnyH_ready (rs := [6]) (by kernel_rfl) (by simp) (AllReadyH.cons (by simp only [List.getElem?_toArray, List.getElem?_cons_succ, List.getElem?_cons_zero]; rfl) (fun K hK => ?_) AllReadyH.nil)
          have q1 := TC.out.hdr HHK.out
          dsimp only at q1
          go_simp
          refine hK.out _ _ trivial (fun hHeld => ?_)
          clear hK K
          try simp only [Act.put, List.setIfInBounds_toArray, List.set_cons_zero, List.set_cons_succ]
          refine wpAnyH_ready (rs := [11]) (by kernel_rfl) (by simp) (AllReadyH.cons (by simp only [List.getElem?_toArray, List.getElem?_cons_succ, List.getElem?_cons_zero]; rfl) (fun K hK => ?_) AllReadyH.nil)
          have ho := (TC.out.row.2.1 k _ vx HHK.out HVX.out).2.1
          dsimp only at ho
          have hol := ho.len
          have hszb := TC.out.own.span _ rfl
          dsimp only at hszb
          have HOI := Lib.hid ho
          have hox := HOX.out.2
          clear ho
          refine step_app3 _ (by rfl) (.tmp 34) (.tmp 38) 26 (by rfl) .i64 3 i1 (.int .i64 0) 8 Try.underlying26 HJ.out.1 HJ.out.2.1 HJ.out.2.2.1 HJ.out.2.2.2 rfl (by rfl) HOI.out (by rfl) NB.out (by omega) (by omega) (by omega) (by omega) ?_
          intro p2 d2 x2 ho2 hg2 hw2
          have HK2 := Lib.hid (TC.out.kept HHK.out HVX.out hg2)
          have hpi := OwnV.putItems TC.out.ownV HVX.out TC.out.own TC.out.row HHK.out hg2 ho2 (fun ad e => by
            rcases hw2 ad e with q | q
            · exact Or.inl q
            · exact Or.inr (by omega))
          have HPV := Lib.hid hpi.1
          have HPF := Lib.hid (HK2.out.2.row HC.out hpi.2 (fun r e => by cases e; exact hgB))
          have HVK2 := Lib.hid (HVK.out.set k HOX.out.1.1 (y := vx.items ++ [z]) (fun u hu => by
            rcases List.mem_append.1 hu with e | e
            · exact HOX.out.1.2 u e
            · rw [List.mem_singleton.1 e]; exact hzi) (by rw [List.length_append]; simp; omega))
          clear ho2 hg2 hw2 hpi
          refine hK.out _ _ trivial (fun hHeld => ?_)
          clear hK K
          try simp only [Act.put, List.setIfInBounds_toArray, List.set_cons_zero, List.set_cons_succ]
          refine wpAnyH_take (i := 12) (v := ?v14) (by simp only [List.getElem?_toArray, List.getElem?_cons_succ, List.getElem?_cons_zero]; rfl) (by kernel_rfl) (by kernel_rfl) (by kernel_rfl) (by exact fun _ _ _ h => h) (Or.inl ⟨by rfl, fun w9 hS9 => ?hy14⟩) hHeld ?rest14
          case hy14 =>
            clear hS9
            go_simp
            try with_reducible rfl
          try simp only [Act.put, List.setIfInBounds_toArray, List.set_cons_zero, List.set_cons_succ]
          refine wpAnyH_take (i := 13) (v := ?v15) (by simp only [List.getElem?_toArray, List.getElem?_cons_succ, List.getElem?_cons_zero]; rfl) (by kernel_rfl) (by kernel_rfl) (by kernel_rfl) (by exact fun _ _ _ h => h) (Or.inl ⟨by rfl, fun w9 hS9 => ?hy15⟩) hHeld ?rest15
          case hy15 =>
            clear hS9
            go_simp
            try with_reducible rfl
          try simp only [Act.put, List.setIfInBounds_toArray, List.set_cons_zero, List.set_cons_succ]
          refine wpAnyH_ready (rs := [14]) (by kernel_rfl) (by simp) (AllReadyH.cons (by simp only [List.getElem?_toArray, List.getElem?_cons_succ, List.getElem?_cons_zero]; rfl) (fun K hK => ?_) AllReadyH.nil)
          have r1 := HK2.out.1.2.frozenAt (k * 2 + 1)
          obtain ⟨u9, hu9⟩ := row_cell HK2.out.1.2 (k := k * 2 + 1) (by omega)
          go_simp
          refine hK.out _ _ trivial (fun hHeld => ?_)
          clear hK K
          try simp only [Act.put, List.setIfInBounds_toArray, List.set_cons_zero, List.set_cons_succ]
          refine wpAnyH_done (by kernel_rfl) ?_ _
          go_wp2_with fail
          go_ret
          exact ⟨_, _, _, _, rfl, HPV.out, by omega, HVK2.out, HPF.out⟩
  have b1 : (y == 1) = false := by simpa using q1
  by_cases q2 : y = 2
  · have b2 : (y == 2) = true := by simpa using q2
    clear q2
    have hs4 := HTW.out.dr.2.size
    have HT5 := Lib.hid (HTW.out.same (alloc_same w4 (.cells #[.int .i64 1, .int .i64 2, .int .i64 3, .int .i64 4, .int .i64 5] 3)))
    have fz := HT5.out.own.2.frozenAt (k * 2 + 1)
    obtain ⟨u, hu⟩ := row_cell HT5.out.own.2 (k := k * 2 + 1) (by omega)
    have hpi := OwnV.putItems HTW.out.ownV HVX.out HTW.out.own HTW.out.row HHK.out (grown_below (alloc_same w4 (.cells #[.int .i64 1, .int .i64 2, .int .i64 3, .int .i64 4, .int .i64 5] 3)) _) (p := some ⟨w4.heap.size, 0, none⟩) (m := 5) (d := 5) (y := [1, 2, 3, 4, 5]) ⟨rfl, World.ownsRow_lit w4 #[.int .i64 1, .int .i64 2, .int .i64 3, .int .i64 4, .int .i64 5] 5 hs4 (by unfold maxLen; omega) rfl⟩ (fun ad e => Or.inr (by cases e; exact Nat.le_refl _))
    have HPV := Lib.hid hpi.1
    have HPF := Lib.hid (HT5.out.dr.row HC.out hpi.2 (fun r e => by cases e; exact hgB))
    have HVK2 := Lib.hid (HVK.out.set k HOX.out.1.1 (y := [1, 2, 3, 4, 5]) (fun z hz => list_i64 (l := [1, 2, 3, 4, 5]) (by decide) hz) (by simp))
    clear hpi
    go_wp2_with fail
    go_ret
    exact ⟨_, _, _, _, rfl, HPV.out, by omega, HVK2.out, HPF.out⟩
  have b2 : (y == 2) = false := by simpa using q2
  by_cases q3 : y = 3
  · have b3 : (y == 3) = true := by simpa using q3
    clear q3
    obtain ⟨v0, hv0⟩ : ∃ v0, v[0]? = some v0 := ⟨_, List.getElem?_eq_getElem (by rw [HLN.out]; omega)⟩
    obtain ⟨⟨z, zp, zm, zc⟩, hh0⟩ : ∃ u : Vh, hs[0]? = some u := ⟨_, List.getElem?_eq_getElem (by rw [HTW.out.row.1, HLN.out]; omega)⟩
    have hz0 := HTW.out.tag hh0
    have hzi : I64 z := by
      have h1 := (HTW.out.row.2.1 0 _ v0 hh0 hv0).1
      have h2 := (HVK4.out v0 (List.mem_of_getElem? hv0)).1.1
      rw [h1] at h2
      exact h2
    rw [Nat.zero_mul] at hz0
    dsimp only at hz0
    have hmi2 : (0 : Int) < (m : Int) := by omega
    have HLM := Lib.hid HTW.out.ownV.lim
    have HNN : Hid (Items Vh.enc 2 (w4.alloc (.cells #[.int .i64 z, .slice none 0 0] 57)) (some ⟨w4.heap.size, 0, none⟩) 1 [⟨z, none, 0, 0⟩]) := Lib.hid (items_new Vh.enc_len w4 ⟨z, none, 0, 0⟩ 57)
    have hsz4 := HTW.out.own.span _ rfl
    dsimp only at hsz4
    clear hv0 hh0
    go_wp2_with (at_builtin; refine wpl_appV2 _ rfl (.tmp 51) (.tmp 57) 24 rfl 57 3 i0 (.agg #[.int .i64 0, .slice none 0 0]) 32 Try.underlying24 HI.out.1 HI.out.2.1 HI.out.2.2.1 HI.out.2.2.2 rfl rfl (HLM.out.same (alloc_same _ _)) rfl HNN.out (Own.nil) (fun ad e => by cases e) (by omega) ?c4 ?c5 ?_)
    case c4 => omega
    case c5 => simp; omega
    intro a5 c5 w5 ho5 hg5
    have HPV := Lib.hid ho5
    have HPF := Lib.hid ((HTW.out.same (alloc_same w4 (.cells #[.int .i64 z, .slice none 0 0] 57))).dr.row HC.out hg5 (fun r e => by
      simp only [Value.ownBlock, Option.some.injEq] at e
      omega))
    have HVK2 := Lib.hid (HVK.out.app (k := z) (y := []) hzi (fun z hz => by cases hz) (by simp))
    clear ho5 hg5
    go_wp2_with fail
    go_ret
    exact ⟨_, _, _, _, rfl, HPV.out, by omega, HVK2.out, HPF.out⟩
  have b3 : (y == 3) = false := by simpa using q3
  clear q0 q1 q2 q3
  have HPV := Lib.hid HTW.out.ownV
  have HPF := Lib.hid HTW.out.dr
  go_wp2_with fail
  go_ret
  exact ⟨_, _, _, _, rfl, HPV.out, by omega, HVK.out, HPF.out⟩
end Go.Proofs.Ytgkacnngodamgaa
namespace Go.Proofs.Ytgkacnngodamgaa
open Go.ChangeShapes Go.WideShapes Go.ChangeAt Go.RowKit
set_option linter.unusedVariables false
set_option linter.unusedSimpArgs false

def encW (l : List Vl) : List Int := if areX l = true then encX l else []
theorem encW_yes {l : List Vl} (h : areX l = true) : encW l = encX l := if_pos h
theorem encW_no {l : List Vl} (h : areX l = false) : encW l = [] := if_neg (by rw [h]; decide)
theorem encW_few (l : List Vl) : (encW l).length ≤ 37 := by
  cases h : areX l with
  | true => rw [encW_yes h]; exact encX_few h
  | false => rw [encW_no h]; simp
/-- What is left by a function that writes extensions. -/
def EncXT (tI : TypeId) (l : List Vl) (w : World) (e : Ending) (w' : World) : Prop :=
  ∃ q m d, e = .returned (.tuple #[.slice q m d, .bool (areX l)]) ∧ Own .i64 tI w' w.heap.size q m d (encW l) ∧ Below w.heap.size w w'
theorem Own.take_len {k : IntKind} {t : TypeId} {w : World} {B n c : Nat} {a : Option Addr} {l : List Int} (h : Own k t w B a n c l) {l' : List Int} (e : l = l') : Own k t w B a n c l' := by rw [← e]; exact h
set_option maxHeartbeats 4000000 in
set_option maxRecDepth 100000 in
theorem encodeExts_any {a : Option Addr} {n c : Nat} {l : List Vl} {w : World} (h : Vals w a n l) :
    Calls Try.prog 10 #[.slice a n c] w (EncXT 3 l w) := by
  have H := Lib.hid h
  have hln := Lib.hid h.len
  have hfit := h.fits
  obtain ⟨i0, hi, hz0, hz1, hz2⟩ := info_parts infoIntS
  have HI := Lib.hid (And.intro hi (And.intro hz0 (And.intro hz1 hz2)))
  clear hi hz0 hz1 hz2 h
  have HA := Lib.hid (areExts_any (c := c) (H.out.same (alloc_same w (.cells #[] 3))))
  have HO0 : Hid (Own .i64 3 (w.alloc (.cells #[] 3)) w.heap.size (some ⟨w.heap.size, 0, none⟩) 0 0 []) := Lib.hid (Own.empty (Nat.le_refl _))
  have HB0 : Hid (Below w.heap.size w (w.alloc (.cells #[] 3))) := Lib.hid (alloc_same _ _)
  unfold EncXT
  cases har : areX l with
  | false =>
    rw [har] at HA
    rw [encW_no har]
    clear har
    go_enter Try.func10, Try.ntmps10
    go_wp2_with fail
    refine HA.out.mono ?_
    rintro e w1 ⟨rfl, hb1⟩
    have HB1 := Lib.hid (HB0.out.trans (hb1.mono HB0.out.size))
    have HO1 := Lib.hid (HO0.out.same hb1)
    clear hb1 HA
    go_wp2_with fail
    go_ret2
    exact ⟨_, _, _, rfl, HO1.out, HB1.out⟩
  | true =>
    rw [har] at HA
    rw [encW_yes har]
    obtain ⟨hn6, hit⟩ := areX_few har
    rw [hln.out] at hn6
    clear har
    go_enter Try.func10, Try.ntmps10
    go_wp2_with fail
    refine HA.out.mono ?_
    rintro e w1 ⟨rfl, hb1⟩
    have HB1 := Lib.hid (HB0.out.trans (hb1.mono HB0.out.size))
    have HO1 := Lib.hid (HO0.out.same hb1)
    have hs1 := HB1.out.size
    clear hb1 HA
    go_wp2_with (at_builtin; refine wpl_app _ rfl (.tmp 12) (.tmp 15) 26 rfl .i64 3 i0 (.int .i64 0) 8 Try.underlying26 HI.out.1 HI.out.2.1 HI.out.2.2.1 HI.out.2.2.2 rfl rfl (HO1.out.alloc _) rfl (nums_new _ _ _ _) (by omega) ?c1 ?c2 ?_)
    case c1 => omega
    case c2 => simp; omega
    intro a2 c2 w2 ho2 hb2
    have HO2 : Hid (Own .i64 3 w2 w.heap.size a2 1 c2 ((n : Int) :: codesX (l.take 0))) := Lib.hid ho2
    have HB2 : Hid (Below w.heap.size w w2) := Lib.hid (HB1.out.trans (((alloc_same _ _).mono hs1).trans hb2))
    clear ho2 hb2
    go_wp2_with fail
    go_loopw [4, 19] (fun v i wr => ∃ (j : Nat) (q : Option Addr) (r e : Nat), j ≤ n ∧ i = .int .i64 j ∧ v = .slice q r e ∧ Own .i64 3 wr w.heap.size q r e ((n : Int) :: codesX (l.take j)) ∧ Below w.heap.size w wr) (fun _ i _ => n - (intOf i).toNat)
    case atStart => exact ⟨0, _, _, _, Nat.zero_le _, rfl, rfl, HO2.out, HB2.out⟩
    case round =>
      obtain ⟨j, q, r, e, hj, rfl, rfl, hown, hb⟩ := hrel
      have HOr := Lib.hid hown
      have HBr := Lib.hid hb
      clear hown hb
      by_cases hlt : j < n
      · obtain ⟨bb, o, p, pm, pd, k, y, rfl, hx, hd0, hd1, hN, hr⟩ := H.out.at_ hlt
        have hc0 := cell_stay hd0 HBr.out
        have hc1 := cell_stay hd1 HBr.out
        have hsz := HBr.out.size
        have hym := hN.len
        have hyi := itemsOf_mem hx
        dsimp only at hyi
        have hpm : pm ≤ 24 := by omega
        have hrl : r ≤ 37 := by
          have h1 := HOr.out.len
          have h2 := itemsOf_le l j
          rw [List.length_cons, codesX_len, List.length_take] at h1
          omega
        have HX : Hid ((n : Int) :: codesX (l.take (j + 1)) = ((n : Int) :: codesX (l.take j) ++ [k]) ++ ((pm : Int) :: y)) := Lib.hid (by rw [codesX_take hx]; simp [codeX, hym])
        have hb0 := alloc_same wr (.cells #[.int .i64 k, .slice p pm pd] 57)
        have hw0 := heap_alloc_new wr (.cells #[.int .i64 k, .slice p pm pd] 57)
        have C0 := Lib.hid ((block_cell hw0 0).trans rfl)
        have C1 := Lib.hid ((block_cell hw0 1).trans rfl)
        have HBW := Lib.hid (HBr.out.trans (hb0.mono hsz))
        have HOW := Lib.hid (HOr.out.same hb0)
        have HOFF := Lib.hid (own_off (n := r) (c := e) HOr.out.span (Nat.le_refl _))
        have HV : Hid (∀ w9, Below w.heap.size w w9 → Nums .i64 w9 p pm y) := Lib.hid (fun w9 h9 => hN.same h9)
        clear hx hN hb0 hw0 hym hyi hd0 hd1
        go_wp2_with fail
        have hlt0 : wr.heap.size < (wr.alloc (.cells #[.int .i64 k, .slice p pm pd] 57)).heap.size := by simp
        generalize wr.alloc (.cells #[.int .i64 k, .slice p pm pd] 57) = W0 at *
        have HQ : Hid (Below W0.heap.size W0 (W0.alloc (.cells #[.int .i64 k] 3)).drew) := Lib.hid (alloc_same _ _).drew
        have HOQ : Hid (Own .i64 3 (W0.alloc (.cells #[.int .i64 k] 3)).drew w.heap.size q r e ((n : Int) :: codesX (l.take j))) := Lib.hid (HOW.out.same HQ.out)
        have HNQ : Hid (Nums .i64 (W0.alloc (.cells #[.int .i64 k] 3)).drew (some ⟨W0.heap.size, 0, none⟩) 1 [k]) := Lib.hid ((nums_new _ _ _ _).same (Below.refl _ _).drew)
        have hsW : w.heap.size ≤ W0.heap.size := HBW.out.size
        have HBQ : Hid (Below w.heap.size w (W0.alloc (.cells #[.int .i64 k] 3)).drew) := Lib.hid (HBW.out.trans (HQ.out.mono hsW))
        have hsQ : w.heap.size ≤ (W0.alloc (.cells #[.int .i64 k] 3)).drew.heap.size := HBQ.out.size
        have hltQ : wr.heap.size < (W0.alloc (.cells #[.int .i64 k] 3)).drew.heap.size := Nat.lt_of_lt_of_le hlt0 HQ.out.size
        go_region_held3 (fun w9 => w9.cell? ⟨wr.heap.size, 0, none⟩ = some (.int .i64 k) ∧ w9.cell? ⟨wr.heap.size, 1, none⟩ = some (.slice p pm pd)) (first | exact ⟨cell_stay C0.out (Below.refl _ _).drew, cell_stay C1.out (Below.refl _ _).drew⟩ | exact ⟨cell_stay C0.out HQ.out, cell_stay C1.out HQ.out⟩ | exact HC3.out | exact HC4.out) ((first | (refine step_app_g _ (by rfl) (.tmp 23) (.tmp 26) 26 (by rfl) .i64 3 i0 (.int .i64 0) 8 Try.underlying26 HI.out.1 HI.out.2.1 HI.out.2.2.1 HI.out.2.2.2 rfl (by rfl) HOQ.out (by rfl) HNQ.out (by omega) (by omega) hsQ ?_; intro a3 c3 w3 ho3 hg3 hl3; have HO3 := Lib.hid ho3; have HB3 : Hid (Below w.heap.size w w3) := Lib.hid (grown_to hg3 HBQ.out HOQ.out.span (Nat.le_refl _) hsQ); have HC3 := Lib.hid (And.intro (cell_off (cell_stay C0.out HQ.out) hg3 HOFF.out) (cell_off (cell_stay C1.out HQ.out) hg3 HOFF.out)); have HOFF3 := Lib.hid (off3 (n' := r + 1) (c' := c3) HOFF.out hl3 hltQ); have hs3 : w.heap.size ≤ w3.heap.size := HB3.out.size; clear ho3 hg3 hl3) | (go_at_call 42; refine (writeItems_any w.heap.size a3 (r + 1) c3 _ 0 p pm pd y w3 HO3.out (fun w9 h9 => HV.out w9 (HB3.out.trans h9)) hs3 (by omega) (by omega)).mono ?_; rintro e4 w4 ⟨a4, n4, c4, rfl, ho4, hg4⟩; have HO4 := Lib.hid ho4; have HB4 : Hid (Below w.heap.size w w4) := Lib.hid (grown_to hg4 HB3.out HO3.out.span (Nat.le_refl _) hs3); have HC4 := Lib.hid (And.intro (cell_off HC3.out.1 hg4 HOFF3.out) (cell_off HC3.out.2 hg4 HOFF3.out)); clear ho4 hg4)))
        go_wp2_with fail
        go_roundw
        case rel => exact ⟨j + 1, a4, n4, c4, by omega, by go_num, rfl, by rw [HX.out]; exact HO4.out, HB4.out⟩
        case measure => simp [intOf]; omega
      · obtain rfl : j = n := by omega
        go_wp2_with fail
        go_ret2
        have h1 := HOr.out
        rw [List.take_of_length_le (by rw [hln.out]; omega)] at h1
        refine ⟨_, _, _, rfl, h1.take_len ?_, HBr.out⟩
        unfold encX
        rw [hln.out]
end Go.Proofs.Ytgkacnngodamgaa
