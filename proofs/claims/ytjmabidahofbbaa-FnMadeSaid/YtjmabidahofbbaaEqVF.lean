/- Lists of values are compared: by the program. -/
import Derived.Test.YtjmabidahofbbaaEqV
namespace Go.Proofs.Ytjmabidahofbbaa
open Go.ChangeShapes Go.WideShapes Go.ChangeAt Go.RowKit
set_option linter.unusedVariables false

theorem vl_ne {x y : Vl} (h : x ≠ y) : ¬ (x.num = y.num ∧ x.items = y.items) := fun e => h (by
  obtain ⟨a, b⟩ := x
  obtain ⟨c, d⟩ := y
  simp only at e
  rw [e.1, e.2])
set_option maxHeartbeats 1000000 in
set_option maxRecDepth 100000 in
theorem equalFuncV_yes {a b : Option Addr} {n m c d : Nat} {l : List Vl} {w : World} (h : Vals w a n l) (h' : Vals w b m l) :
    Calls Try.prog 62 #[.slice a n c, .slice b m d, .func (.func 60) #[] #[]] w (Told (.bool true) w) := by
  obtain rfl : n = m := by rw [← h.len, ← h'.len]
  have hn := h.fits
  have H := Lib.hid h
  have H' := Lib.hid h'
  clear h h'
  go_enter Try.func62, Try.ntmps62
  go_wp2_with fail
  go_loopw [17] (fun i wr => ∃ j : Nat, j ≤ n ∧ i = .int .i64 j ∧ Below w.heap.size w wr) (fun i _ => n - (intOf i).toNat)
  case atStart => exact ⟨0, Nat.zero_le _, rfl, Below.refl _ _⟩
  case round =>
    obtain ⟨j, hj, rfl, hb⟩ := hrel
    have HB := Lib.hid hb
    clear hb
    by_cases hlt : j < n
    · obtain ⟨b1, o1, p1, m1, d1, k1, y1, rfl, hx, hc0, hc1, hN1, hr1⟩ := (H.out.same HB.out).at_ hlt
      obtain ⟨b2, o2, p2, m2, d2, k2, y2, rfl, hy, hd0, hd1, hN2, hr2⟩ := (H'.out.same HB.out).at_ hlt
      rw [hx] at hy
      cases hy
      have HW : Hid (Below wr.heap.size wr ((wr.alloc (.cells #[.int .i64 k1, .slice p1 m1 d1] 73)).alloc (.cells #[.int .i64 k1, .slice p2 m2 d2] 73))) := Lib.hid (((Below.refl _ wr).alloc (Nat.le_refl _) _).alloc (by simp) _)
      have hq0 : (wr.alloc (.cells #[.int .i64 k1, .slice p1 m1 d1] 73)).cell? ⟨b2, o2 + j * 2, none⟩ = some (.int .i64 k1) := by rw [(alloc_same wr _).cell (cell_in hd0)]; exact hd0
      have hq1 : (wr.alloc (.cells #[.int .i64 k1, .slice p1 m1 d1] 73)).cell? ⟨b2, o2 + j * 2 + 1, none⟩ = some (.slice p2 m2 d2) := by rw [(alloc_same wr _).cell (cell_in hd1)]; exact hd1
      have K := Lib.hid (equalValues_yes (k := k1) (c := d1) (d := d2) (hN1.same HW.out) (hN2.same HW.out))
      clear hx hN1 hN2
      go_wp2_with fail
      refine K.out.mono ?_
      rintro e w3 ⟨rfl, hb3⟩
      have HB3 := Lib.hid ((HB.out.trans (HW.out.mono HB.out.size)).trans (hb3.mono (Nat.le_trans HB.out.size HW.out.size)))
      clear hb3 hc0 hc1 hd0 hd1 hq0 hq1
      go_wp2_with fail
      go_roundw
      case rel => exact ⟨j + 1, by omega, by go_num, HB3.out⟩
      case measure => simp [intOf]; omega
    · go_wp2_with fail
      go_ret
      exact ⟨rfl, HB.out⟩
set_option maxHeartbeats 1000000 in
set_option maxRecDepth 100000 in
theorem equalFuncV_no {a b : Option Addr} {n m c d : Nat} {l l' : List Vl} {w : World} (h : Vals w a n l) (h' : Vals w b m l') (hne : l ≠ l') :
    Calls Try.prog 62 #[.slice a n c, .slice b m d, .func (.func 60) #[] #[]] w (Told (.bool false) w) := by
  have hn := h.fits
  have hm := h'.fits
  have H := Lib.hid h
  have H' := Lib.hid h'
  have HE := Lib.hid hne
  clear h h' hne
  by_cases hnm : n = m
  · subst hnm
    go_enter Try.func62, Try.ntmps62
    go_wp2_with fail
    go_loopw [17] (fun i wr => ∃ j : Nat, j ≤ n ∧ i = .int .i64 j ∧ l.take j = l'.take j ∧ Below w.heap.size w wr) (fun i _ => n - (intOf i).toNat)
    case atStart => exact ⟨0, Nat.zero_le _, rfl, rfl, Below.refl _ _⟩
    case round =>
      obtain ⟨j, hj, rfl, ht, hb⟩ := hrel
      have HB := Lib.hid hb
      have HT := Lib.hid ht
      clear hb ht
      by_cases hlt : j < n
      · obtain ⟨b1, o1, p1, m1, d1, k1, y1, rfl, hx, hc0, hc1, hN1, hr1⟩ := (H.out.same HB.out).at_ hlt
        obtain ⟨b2, o2, p2, m2, d2, k2, y2, rfl, hy, hd0, hd1, hN2, hr2⟩ := (H'.out.same HB.out).at_ hlt
        have HW : Hid (Below wr.heap.size wr ((wr.alloc (.cells #[.int .i64 k1, .slice p1 m1 d1] 73)).alloc (.cells #[.int .i64 k2, .slice p2 m2 d2] 73))) := Lib.hid (((Below.refl _ wr).alloc (Nat.le_refl _) _).alloc (by simp) _)
        have hq0 : (wr.alloc (.cells #[.int .i64 k1, .slice p1 m1 d1] 73)).cell? ⟨b2, o2 + j * 2, none⟩ = some (.int .i64 k2) := by rw [(alloc_same wr _).cell (cell_in hd0)]; exact hd0
        have hq1 : (wr.alloc (.cells #[.int .i64 k1, .slice p1 m1 d1] 73)).cell? ⟨b2, o2 + j * 2 + 1, none⟩ = some (.slice p2 m2 d2) := by rw [(alloc_same wr _).cell (cell_in hd1)]; exact hd1
        by_cases hxy : k1 = k2 ∧ y1 = y2
        · obtain ⟨rfl, rfl⟩ := hxy
          have HX := Lib.hid hx
          have HY := Lib.hid hy
          have K := Lib.hid (equalValues_yes (k := k1) (c := d1) (d := d2) (hN1.same HW.out) (hN2.same HW.out))
          clear hx hy hN1 hN2
          go_wp2_with fail
          refine K.out.mono ?_
          rintro e w3 ⟨rfl, hb3⟩
          have HB3 := Lib.hid ((HB.out.trans (HW.out.mono HB.out.size)).trans (hb3.mono (Nat.le_trans HB.out.size HW.out.size)))
          clear hb3 hc0 hc1 hd0 hd1 hq0 hq1
          go_wp2_with fail
          go_roundw
          case rel => exact ⟨j + 1, by omega, by go_num, by rw [List.take_add_one, List.take_add_one, HX.out, HY.out, HT.out], HB3.out⟩
          case measure => simp [intOf]; omega
        · have K := Lib.hid (equalValues_no (c := d1) (d := d2) (hN1.same HW.out) (hN2.same HW.out) hxy)
          clear hx hy hN1 hN2 hxy
          go_wp2_with fail
          refine K.out.mono ?_
          rintro e w3 ⟨rfl, hb3⟩
          have HB3 := Lib.hid ((HB.out.trans (HW.out.mono HB.out.size)).trans (hb3.mono (Nat.le_trans HB.out.size HW.out.size)))
          clear hb3 hc0 hc1 hd0 hd1 hq0 hq1
          go_wp2_with fail
          go_ret
          exact ⟨rfl, HB3.out⟩
      · exfalso
        have h1 := HT.out
        rw [List.take_of_length_le (by rw [H.out.len]; omega), List.take_of_length_le (by rw [H'.out.len]; omega)] at h1
        exact HE.out h1
  · have hq : ((n : Int) != (m : Int)) = true := by simp; omega
    clear hnm
    go_enter Try.func62, Try.ntmps62
    go_wp2_with fail
    go_ret
    exact ⟨rfl, Below.refl _ _⟩
set_option maxRecDepth 100000 in
theorem equalMessages_yes {a b : Option Addr} {n m c d : Nat} {l : List Vl} {w : World} (h : Vals w a n l) (h' : Vals w b m l) :
    Calls Try.prog 18 #[.slice a n c, .slice b m d] w (Told (.bool true) w) := by
  have K := Lib.hid (equalFuncV_yes (c := c) (d := d) h h')
  clear h h'
  go_enter Try.func18, Try.ntmps18
  go_wp2_with fail
  refine K.out.mono ?_
  rintro e w1 ⟨rfl, hb1⟩
  have HB1 := Lib.hid hb1
  clear hb1
  go_wp2
  go_ret
  exact ⟨rfl, HB1.out⟩
set_option maxRecDepth 100000 in
theorem equalMessages_no {a b : Option Addr} {n m c d : Nat} {l l' : List Vl} {w : World} (h : Vals w a n l) (h' : Vals w b m l') (hne : l ≠ l') :
    Calls Try.prog 18 #[.slice a n c, .slice b m d] w (Told (.bool false) w) := by
  have K := Lib.hid (equalFuncV_no (c := c) (d := d) h h' hne)
  clear h h' hne
  go_enter Try.func18, Try.ntmps18
  go_wp2_with fail
  refine K.out.mono ?_
  rintro e w1 ⟨rfl, hb1⟩
  have HB1 := Lib.hid hb1
  clear hb1
  go_wp2
  go_ret
  exact ⟨rfl, HB1.out⟩
end Go.Proofs.Ytjmabidahofbbaa
