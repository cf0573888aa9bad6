/- Bytes, transcripts and their hash: by the model. -/
import Derived.Test.YtiaknjeeonlbcaaTh
import Derived.Test.YtiaknjeeonlbcaaHash2
import Derived.Test.YtiaknjeeonlbcaaSap
import Derived.Deep.RegionHeld3
namespace Go.Proofs.Ytiaknjeeonlbcaa
open Go.ChangeShapes Go.WideShapes Go.ChangeAt Go.RowKit
set_option linter.unusedVariables false
set_option linter.unusedSimpArgs false

theorem specByte_any (z : Int) (w : World) : Calls Try.prog 31 #[.int .i64 z, .int .i64 0, .int .i64 255] w fun e w' => e = .returned (.bool (byteB z)) ∧ w = w' := by
  unfold byteB
  by_cases h1 : (0 : Int) ≤ z <;> by_cases h2 : z ≤ 255 <;> (go_enter Try.func31, Try.ntmps31; go_wp2; go_ret; exact ⟨by simp [h1, h2], rfl⟩)
set_option maxRecDepth 100000 in
theorem l9ByteL_any {p : Option Addr} {m c : Nat} {y : List Int} {w : World} (h : Nums .i64 w p m y) :
    Calls Try.prog 37 #[.slice p m c] w fun e w' => e = .returned (.bool (rowB y)) ∧ w = w' := by
  have H := Lib.hid h
  have hl := h.len
  have hfit := h.fits
  clear h
  go_enter Try.func37, Try.ntmps37
  go_wp2_with fail
  go_loop [3] (fun i => ∃ j : Nat, j ≤ m ∧ i = .int .i64 j ∧ rowB (y.take j) = true) (fun i => m - (intOf i).toNat)
  case atStart => exact ⟨0, Nat.zero_le _, rfl, rowB_zero _⟩
  case round =>
    obtain ⟨j, hj, rfl, hall⟩ := hrel
    have HA := Lib.hid hall
    clear hall
    by_cases hlt : j < m
    · obtain ⟨ad, z, rfl, hz, hc⟩ := H.out.at_ hlt
      have K := Lib.hid (fun w0 => specByte_any z w0)
      cases hi : byteB z with
      | true =>
        have HS := Lib.hid (rowB_step HA.out hz hi)
        rw [hi] at K
        clear hz hi
        go_wp2_with (go_at_call 31; refine (K.out _).mono ?_; rintro e w' ⟨rfl, rfl⟩)
        go_round
        case rel => exact ⟨j + 1, by omega, by go_num, HS.out⟩
        case measure => simp [intOf]; omega
      | false =>
        have HE := Lib.hid (rowB_no hz hi)
        rw [hi] at K
        clear hz hi
        go_wp2_with (go_at_call 31; refine (K.out _).mono ?_; rintro e w' ⟨rfl, rfl⟩)
        go_ret
        exact ⟨by rw [HE.out]; rfl, rfl⟩
    · obtain rfl : j = m := by omega
      have h2 := HA.out
      rw [List.take_of_length_le (by omega)] at h2
      have HE := Lib.hid h2
      clear h2
      go_wp2_with fail
      go_ret
      exact ⟨by rw [HE.out]; rfl, rfl⟩
set_option maxRecDepth 100000 in
set_option maxHeartbeats 2000000 in
theorem specIsTranscript_any {a : Option Addr} {n c : Nat} {l : List (List Int)} {w : World} (h : Rws w a n l) : Calls Try.prog 18 #[.slice a n c] w (Told (.bool (isTr l)) w) := by
  have H := Lib.hid h
  have hl := h.len
  have hfit := h.fits
  clear h
  go_enter Try.func18, Try.ntmps18
  go_wp2_with fail
  go_loop [3] (fun i => ∃ j : Nat, j ≤ n ∧ i = .int .i64 j ∧ (l.take j).all rowB = true) (fun i => n - (intOf i).toNat)
  case atStart => exact ⟨0, Nat.zero_le _, rfl, by simp⟩
  case round =>
    obtain ⟨j, hj, rfl, hall⟩ := hrel
    have HA := Lib.hid hall
    clear hall
    by_cases hlt : j < n
    · obtain ⟨ad, p, m, d, y, rfl, hy, hc, hN, _⟩ := H.out.at_ hlt
      have K := Lib.hid (l9ByteL_any (c := d) hN)
      cases hi : rowB y with
      | true =>
        have HS := Lib.hid (allR_step HA.out hy hi)
        rw [hi] at K
        clear hy hi hN
        go_wp2_with (go_at_call 37; refine K.out.mono ?_; rintro e w' ⟨rfl, rfl⟩)
        go_round
        case rel => exact ⟨j + 1, by omega, by go_num, HS.out⟩
        case measure => simp [intOf]; omega
      | false =>
        have HE : Hid (isTr l = false) := Lib.hid (by unfold isTr; rw [allR_no hy hi, Bool.and_false])
        rw [hi] at K
        clear hy hi hN
        go_wp2_with (go_at_call 37; refine K.out.mono ?_; rintro e w' ⟨rfl, rfl⟩)
        go_ret
        exact ⟨by rw [HE.out]; rfl, Below.refl _ _⟩
    · obtain rfl : j = n := by omega
      have h2 := HA.out
      rw [List.take_of_length_le (by omega)] at h2
      have HE : Hid (decide ((j : Int) ≤ 12) = isTr l) := Lib.hid (by unfold isTr; rw [h2, Bool.and_true, hl]; exact decide_eq_decide.2 (by omega))
      clear h2
      go_wp2_with fail
      go_ret
      exact ⟨congrArg (fun b => Ending.returned (.bool b)) HE.out, Below.refl _ _⟩
set_option maxRecDepth 100000 in
set_option maxHeartbeats 4000000 in
theorem spec_trHash_any {a : Option Addr} {n c : Nat} {l : List (List Int)} {w : World} (hR : Rws w a n l) (hlen : ∀ y ∈ l, y.length ≤ 1000000000) :
    Calls Try.prog 22 #[.slice a n c] w (Told (.int .i64 (trH l)) w) := by
  have K := Lib.hid (specIsTranscript_any (c := c) hR)
  have hl := hR.len
  have hfit := hR.fits
  cases ht : isTr l with
  | false =>
    have e : trH l = 0 := by unfold trH; rw [if_neg (by rw [ht]; decide)]
    rw [ht] at K
    rw [e]
    clear hR hlen e ht
    go_enter Try.func22, Try.ntmps22
    go_wp2_with fail
    refine K.out.mono ?_
    rintro e w1 ⟨rfl, hb⟩
    go_wp2_with fail
    go_ret
    exact ⟨rfl, hb⟩
  | true =>
    have e : trH l = thAll l := by unfold trH; rw [if_pos ht]
    obtain ⟨h12, hall⟩ := isTr_parts ht
    rw [ht] at K
    rw [e]
    have H := Lib.hid hR
    have HL := Lib.hid hlen
    have HA := Lib.hid hall
    clear hR hlen e ht hall
    obtain ⟨i0, hi, hz0, hz1, hz2⟩ := info_parts infoIntS
    have HI := Lib.hid (And.intro hi (And.intro hz0 (And.intro hz1 hz2)))
    clear hi hz0 hz1 hz2
    go_enter Try.func22, Try.ntmps22
    go_wp2_with fail
    refine K.out.mono ?_
    rintro e w1 ⟨rfl, hb1⟩
    have HB1 := Lib.hid hb1
    clear hb1
    go_wp2_with fail
    go_loopw [3, 4] (fun v i wr => ∃ (j : Nat) (h : Int), j ≤ n ∧ i = .int .i64 j ∧ v = .int .i64 h ∧ Hid (thAll (l.take j) = h) ∧ Below w.heap.size w wr) (fun _ i _ => n - (intOf i).toNat)
    case atStart => exact ⟨0, 1, Nat.zero_le _, rfl, rfl, Lib.hid rfl, HB1.out⟩
    case round =>
      obtain ⟨j, h, hj, rfl, rfl, HH, hb⟩ := hrel
      have HB := Lib.hid hb
      have hsz := hb.size
      clear hb
      by_cases hlt : j < n
      · obtain ⟨ad, p, m, d, y, rfl, hy, hc, hN, _⟩ := (H.out.same HB.out).at_ hlt
        have hjI : ((j : Nat) : Int) < (n : Int) := by omega
        have hj0 : (0 : Int) ≤ ((j : Nat) : Int) := by omega
        have hmem := List.mem_of_getElem? hy
        have hym := hN.len
        have hml : m ≤ 1000000000 := by rw [← hym]; exact HL.out y hmem
        have hbd := thAll_bd (l.take j)
        rw [HH.out] at hbd
        have HF := Lib.hid (fits_two (n := m) hbd.1 hbd.2 (by omega) (row_fits HA.out hmem))
        obtain ⟨h2, hh2⟩ : ∃ h2, hashOf ([h, (m : Int)] ++ y) = h2 := ⟨_, rfl⟩
        have HH2 : Hid (thAll (l.take (j + 1)) = h2) := Lib.hid (by rw [thAll_take hy, HH.out]; unfold thStep; rw [hym]; exact hh2)
        have HE2 := Lib.hid hh2
        have HC := Lib.hid hc
        have HN := Lib.hid hN
        have HO : Hid (Own .i64 3 (wr.alloc (.cells #[.int .i64 h, .int .i64 (m : Int)] 3)).drew wr.heap.size (some ⟨wr.heap.size, 0, none⟩) 2 2 [h, (m : Int)]) := Lib.hid ((own_pair wr h (m : Int) (Nat.le_refl _)).same (Below.refl _ _).drew)
        have HB2 : Hid (Below wr.heap.size wr (wr.alloc (.cells #[.int .i64 h, .int .i64 (m : Int)] 3)).drew) := Lib.hid (alloc_same wr _).drew
        clear hy hc hN hh2 hmem
        go_wp2_with fail
        go_region_held3 (fun w9 => w9.cell? (ad.add j) = some (.slice p m d)) (first | exact cell_stay HC.out (Below.refl _ _).drew | exact cell_stay HC.out HB2.out | exact cell_stay HC.out HB3.out | exact cell_stay HC.out HB4.out) ((first | (refine step_app _ (by rfl) (.tmp 20) (.tmp 24) 29 (by rfl) .i64 3 i0 (.int .i64 0) 8 Try.underlying29 HI.out.1 HI.out.2.1 HI.out.2.2.1 HI.out.2.2.2 rfl (by rfl) HO.out (by rfl) (HN.out.same HB2.out) (by omega) (by omega) (by simp) ?_; intro a3 c3 w3 ho3 hb3; have HO3 := Lib.hid ho3; have HB3 : Hid (Below wr.heap.size wr w3) := Lib.hid (HB2.out.trans hb3); clear ho3 hb3) | (go_at_call 42; refine (specHash_any _ _ _ _ _ HO3.out.nums HF.out).mono ?_; rw [HE2.out]; rintro e w4 ⟨rfl, hb4⟩; have HB4 : Hid (Below wr.heap.size wr w4) := Lib.hid (HB3.out.trans (hb4.mono HB3.out.size)); clear hb4)))
        go_wp2_with fail
        go_roundw
        case rel => exact ⟨j + 1, h2, by omega, by go_num, rfl, HH2, HB.out.trans (HB4.out.mono hsz)⟩
        case measure => simp [intOf]; omega
      · obtain rfl : j = n := by omega
        have h2 := HH.out
        rw [List.take_of_length_le (by omega)] at h2
        have HX := Lib.hid h2
        clear h2
        go_wp2_with fail
        go_ret
        exact ⟨by rw [HX.out]; rfl, HB.out⟩
end Go.Proofs.Ytiaknjeeonlbcaa
