/- Transcripts are compared: by the program and by the model. -/
import Derived.Test.YtiaknjeeonlbcaaLl
import Derived.Test.YtiaknjeeonlbcaaEqIP
import Derived.Test.YtiaknjeeonlbcaaEqIM
import Derived.StillTailTactics
import Derived.Handy
namespace Go.Proofs.Ytiaknjeeonlbcaa
open Go.ChangeShapes Go.WideShapes Go.ChangeAt Go.RowKit
set_option linter.unusedVariables false
set_option linter.unusedSimpArgs false

theorem equalRow_any {a b : Option Addr} {n m c d : Nat} {l l' : List Int} {w : World} (h : Nums .i64 w a n l) (h' : Nums .i64 w b m l') :
    Calls Try.prog 34 #[.slice a n c, .slice b m d] w (Told (.bool (decide (l = l'))) w) := by
  by_cases e : l = l'
  · subst e
    rw [decide_eq_true rfl]
    exact equalInts_yes h h'
  · rw [decide_eq_false e]
    exact equalInts_no h h' e
theorem specEqualRow_any {a b : Option Addr} {n m c d : Nat} {l l' : List Int} {w : World} (h : Nums .i64 w a n l) (h' : Nums .i64 w b m l') :
    Calls Try.prog 35 #[.slice a n c, .slice b m d] w (Told (.bool (decide (l = l'))) w) := by
  by_cases e : l = l'
  · subst e
    rw [decide_eq_true rfl]
    exact specEqualInts_yes h h'
  · rw [decide_eq_false e]
    exact specEqualInts_no h h' e

set_option maxRecDepth 100000 in
set_option maxHeartbeats 4000000 in
theorem equalFuncR_any {a b : Option Addr} {n m c d : Nat} {l l' : List (List Int)} {w : World} (h : Rws w a n l) (h' : Rws w b m l') :
    Calls Try.prog 33 #[.slice a n c, .slice b m d, .func (.func 34) #[] #[]] w (Told (.bool (decide (l = l'))) w) := by
  have hn := h.fits
  have hm := h'.fits
  have hln := h.len
  have hlm := h'.len
  have H := Lib.hid h
  have H' := Lib.hid h'
  clear h h'
  by_cases hnm : n = m
  · subst hnm
    go_enter Try.func33, Try.ntmps33
    go_wp2_with fail
    go_loopw [17] (fun i wr => ∃ j : Nat, j ≤ n ∧ i = .int .i64 j ∧ Hid (l.take j = l'.take j) ∧ Below w.heap.size w wr) (fun i _ => n - (intOf i).toNat)
    case atStart => exact ⟨0, Nat.zero_le _, rfl, Lib.hid rfl, Below.refl _ _⟩
    case round =>
      obtain ⟨j, hj, rfl, HT, hb⟩ := hrel
      have HB := Lib.hid hb
      have hsr := hb.size
      clear hb
      by_cases hlt : j < n
      · obtain ⟨ad, p1, m1, d1, y, rfl, hy, hc0, hN, hr⟩ := (H.out.same HB.out).at_ hlt
        obtain ⟨bd, p2, m2, d2, y2, rfl, hy2, hc2, hN2, hr2⟩ := (H'.out.same HB.out).at_ hlt
        have HMU := Lib.hid hN
        have HMV := Lib.hid hN2
        by_cases hq : y = y2
        · have HS : Hid (l.take (j + 1) = l'.take (j + 1)) := Lib.hid (by rw [List.take_add_one, List.take_add_one, hy, hy2, HT.out, hq])
          have HQ := Lib.hid (decide_eq_true hq)
          clear hy hy2 hN hN2 hq
          go_wp2_with fail
          have H2 : Hid (Below wr.heap.size wr wr) := Lib.hid (Below.refl _ _)
          clear hc0 hc2
          have HE := Lib.hid (equalRow_any (c := d1) (d := d2) (HMU.out.same H2.out) (HMV.out.same H2.out))
          rw [HQ.out] at HE
          refine HE.out.mono ?_
          rintro e w4 ⟨rfl, hb4⟩
          have HB4 := Lib.hid (HB.out.trans ((H2.out.trans (hb4.mono H2.out.size)).mono hsr))
          clear hb4
          go_wp2_with fail
          go_roundw
          case rel => exact ⟨j + 1, by omega, by go_num, HS, HB4.out⟩
          case measure => simp [intOf]; omega
        · have HS : Hid (decide (l = l') = false) := Lib.hid (decide_eq_false fun e => hq (by rw [e, hy2] at hy; exact (Option.some.inj hy).symm))
          have HQ := Lib.hid (decide_eq_false hq)
          clear hy hy2 hN hN2 hq
          go_wp2_with fail
          have H2 : Hid (Below wr.heap.size wr wr) := Lib.hid (Below.refl _ _)
          clear hc0 hc2
          have HE := Lib.hid (equalRow_any (c := d1) (d := d2) (HMU.out.same H2.out) (HMV.out.same H2.out))
          rw [HQ.out] at HE
          refine HE.out.mono ?_
          rintro e w4 ⟨rfl, hb4⟩
          have HB4 := Lib.hid (HB.out.trans ((H2.out.trans (hb4.mono H2.out.size)).mono hsr))
          clear hb4
          go_wp2_with fail
          go_ret
          exact ⟨by rw [HS.out]; rfl, HB4.out⟩
      · obtain rfl : j = n := by omega
        have h1 := HT.out
        rw [List.take_of_length_le (by omega), List.take_of_length_le (by omega)] at h1
        have HS : Hid (decide (l = l') = true) := Lib.hid (decide_eq_true h1)
        clear h1
        go_wp2_with fail
        go_ret
        exact ⟨by rw [HS.out]; rfl, HB.out⟩
  · have hq : ((n : Int) != (m : Int)) = true := by simp; omega
    have HS : Hid (decide (l = l') = false) := Lib.hid (decide_eq_false fun e => hnm (by rw [← hln, ← hlm, e]))
    rw [HS.out]
    clear hnm
    go_enter Try.func33, Try.ntmps33
    go_wp2_with fail
    go_ret
    exact ⟨rfl, Below.refl _ _⟩

set_option maxRecDepth 100000 in
set_option maxHeartbeats 4000000 in
theorem specSame_any {a b : Option Addr} {n m c d : Nat} {l l' : List (List Int)} {w : World} (h : Rws w a n l) (h' : Rws w b m l') :
    Calls Try.prog 16 #[.slice a n c, .slice b m d] w (Told (.bool (decide (l = l'))) w) := by
  have hn := h.fits
  have hm := h'.fits
  have hln := h.len
  have hlm := h'.len
  have H := Lib.hid h
  have H' := Lib.hid h'
  clear h h'
  by_cases hnm : n = m
  · subst hnm
    go_enter Try.func16, Try.ntmps16
    go_wp2_with fail
    go_loopw [5] (fun i wr => ∃ j : Nat, j ≤ n ∧ i = .int .i64 j ∧ Hid (l.take j = l'.take j) ∧ Below w.heap.size w wr) (fun i _ => n - (intOf i).toNat)
    case atStart => exact ⟨0, Nat.zero_le _, rfl, Lib.hid rfl, Below.refl _ _⟩
    case round =>
      obtain ⟨j, hj, rfl, HT, hb⟩ := hrel
      have HB := Lib.hid hb
      have hsr := hb.size
      clear hb
      by_cases hlt : j < n
      · obtain ⟨ad, p1, m1, d1, y, rfl, hy, hc0, hN, hr⟩ := (H.out.same HB.out).at_ hlt
        obtain ⟨bd, p2, m2, d2, y2, rfl, hy2, hc2, hN2, hr2⟩ := (H'.out.same HB.out).at_ hlt
        have HMU := Lib.hid hN
        have HMV := Lib.hid hN2
        by_cases hq : y = y2
        · have HS : Hid (l.take (j + 1) = l'.take (j + 1)) := Lib.hid (by rw [List.take_add_one, List.take_add_one, hy, hy2, HT.out, hq])
          have HQ := Lib.hid (decide_eq_true hq)
          clear hy hy2 hN hN2 hq
          go_wp2_with fail
          go_still_tail 8, (by kernel_rfl)
          have H2 : Hid (Below wr.heap.size wr wr.drew) := Lib.hid (Below.refl _ _).drew
          change wpList _ _ _ _ _ wr.drew
          generalize wr.drew = w3 at H2 ⊢
          clear hc0 hc2
          have HE := Lib.hid (specEqualRow_any (c := d1) (d := d2) (HMU.out.same H2.out) (HMV.out.same H2.out))
          rw [HQ.out] at HE
          go_wp2_with fail
          refine HE.out.mono ?_
          rintro e w4 ⟨rfl, hb4⟩
          have HB4 := Lib.hid (HB.out.trans ((H2.out.trans (hb4.mono H2.out.size)).mono hsr))
          clear hb4
          go_wp2_with fail
          go_roundw
          case rel => exact ⟨j + 1, by omega, by go_num, HS, HB4.out⟩
          case measure => simp [intOf]; omega
        · have HS : Hid (decide (l = l') = false) := Lib.hid (decide_eq_false fun e => hq (by rw [e, hy2] at hy; exact (Option.some.inj hy).symm))
          have HQ := Lib.hid (decide_eq_false hq)
          clear hy hy2 hN hN2 hq
          go_wp2_with fail
          go_still_tail 8, (by kernel_rfl)
          have H2 : Hid (Below wr.heap.size wr wr.drew) := Lib.hid (Below.refl _ _).drew
          change wpList _ _ _ _ _ wr.drew
          generalize wr.drew = w3 at H2 ⊢
          clear hc0 hc2
          have HE := Lib.hid (specEqualRow_any (c := d1) (d := d2) (HMU.out.same H2.out) (HMV.out.same H2.out))
          rw [HQ.out] at HE
          go_wp2_with fail
          refine HE.out.mono ?_
          rintro e w4 ⟨rfl, hb4⟩
          have HB4 := Lib.hid (HB.out.trans ((H2.out.trans (hb4.mono H2.out.size)).mono hsr))
          clear hb4
          go_wp2_with fail
          go_ret
          exact ⟨by rw [HS.out]; rfl, HB4.out⟩
      · obtain rfl : j = n := by omega
        have h1 := HT.out
        rw [List.take_of_length_le (by omega), List.take_of_length_le (by omega)] at h1
        have HS : Hid (decide (l = l') = true) := Lib.hid (decide_eq_true h1)
        clear h1
        go_wp2_with fail
        go_ret
        exact ⟨by rw [HS.out]; rfl, HB.out⟩
  · have hq : ((n : Int) != (m : Int)) = true := by simp; omega
    have HS : Hid (decide (l = l') = false) := Lib.hid (decide_eq_false fun e => hnm (by rw [← hln, ← hlm, e]))
    rw [HS.out]
    clear hnm
    go_enter Try.func16, Try.ntmps16
    go_wp2_with fail
    go_ret
    exact ⟨rfl, Below.refl _ _⟩

theorem sameTranscripts_any {a b : Option Addr} {n m c d : Nat} {l l' : List (List Int)} {w : World} (h : Rws w a n l) (h' : Rws w b m l') :
    Calls Try.prog 15 #[.slice a n c, .slice b m d] w (Told (.bool (decide (l = l'))) w) := by
  have K := Lib.hid (equalFuncR_any (c := c) (d := d) h h')
  clear h h'
  obtain ⟨r, hr⟩ : ∃ r, decide (l = l') = r := ⟨_, rfl⟩
  rw [hr] at K ⊢
  clear hr
  go_enter Try.func15, Try.ntmps15
  go_wp2_with fail
  refine K.out.mono ?_
  rintro e w1 ⟨rfl, hb1⟩
  have HB1 := Lib.hid hb1
  clear hb1
  go_wp2_with fail
  go_ret
  exact ⟨rfl, HB1.out⟩
end Go.Proofs.Ytiaknjeeonlbcaa
