/- Lists of fields are compared: by the program. -/
import Derived.Test.YtjkjnhkamieljaaFieldT
namespace Go.Proofs.Ytjkjnhkamieljaa
open Go.ChangeShapes Go.WideShapes Go.ChangeAt Go.RowKit
set_option linter.unusedVariables false

theorem neFd {x y : Fd} (h : x ≠ y) : (x.kind == y.kind) = false ∨ (x.kind = y.kind ∧ (x.max == y.max) = false) ∨ (x.kind = y.kind ∧ x.max = y.max ∧ (x.cond == y.cond) = false) ∨ (x.kind = y.kind ∧ x.max = y.max ∧ x.cond = y.cond ∧ (x.is == y.is) = false) := by
  obtain ⟨a1, a2, a3, a4⟩ := x
  obtain ⟨b1, b2, b3, b4⟩ := y
  simp only [ne_eq, Fd.mk.injEq, not_and] at h
  simp only [beq_eq_false_iff_ne, ne_eq]
  by_cases h1 : a1 = b1
  · by_cases h2 : a2 = b2
    · by_cases h3 : a3 = b3
      · exact Or.inr (Or.inr (Or.inr ⟨h1, h2, h3, h h1 h2 h3⟩))
      · exact Or.inr (Or.inr (Or.inl ⟨h1, h2, h3⟩))
    · exact Or.inr (Or.inl ⟨h1, h2⟩)
  · exact Or.inl h1
set_option maxRecDepth 100000 in
theorem slicesEqualF_yes {a b : Option Addr} {n m c d : Nat} {l : List Fd} {w : World} (h : Fds w a n l) (h' : Fds w b m l) :
    Calls Try.prog 36 #[.slice a n c, .slice b m d] w (Told (.bool true) w) := by
  obtain rfl : n = m := by rw [← h.len, ← h'.len]
  have hn := h.fits
  have H := Lib.hid h
  have H' := Lib.hid h'
  clear h h'
  go_enter Try.func36, Try.ntmps36
  go_wp2
  go_loopw [13] (fun i wr => ∃ j : Nat, j ≤ n ∧ i = .int .i64 j ∧ Below w.heap.size w wr) (fun i _ => n - (intOf i).toNat)
  case atStart => exact ⟨0, Nat.zero_le _, rfl, Below.refl _ _⟩
  case round =>
    obtain ⟨j, hj, rfl, hb⟩ := hrel
    have HB := Lib.hid hb
    clear hb
    by_cases hlt : j < n
    · obtain ⟨b1, o1, x, rfl, hx, hc0, hc1, hc2, hc3⟩ := fds_at (H.out.same HB.out) hlt
      obtain ⟨b2, o2, y, rfl, hy, hd0, hd1, hd2, hd3⟩ := fds_at (H'.out.same HB.out) hlt
      rw [hx] at hy
      cases hy
      clear hx
      go_wp2
      go_quiet (fail)
      go_wp2
      go_roundw
      case rel => exact ⟨j + 1, by omega, by go_num, HB.out.trans ((drewN_same _ _).mono HB.out.size)⟩
      case measure => simp [intOf]; omega
    · go_wp2
      go_ret
      exact ⟨rfl, HB.out⟩
set_option maxRecDepth 100000 in
theorem slicesEqualF_no {a b : Option Addr} {n m c d : Nat} {l l' : List Fd} {w : World} (h : Fds w a n l) (h' : Fds w b m l') (hne : l ≠ l') :
    Calls Try.prog 36 #[.slice a n c, .slice b m d] w (Told (.bool false) w) := by
  have hn := h.fits
  have hm := h'.fits
  have H := Lib.hid h
  have H' := Lib.hid h'
  have HE := Lib.hid hne
  clear h h' hne
  by_cases hnm : n = m
  · subst hnm
    go_enter Try.func36, Try.ntmps36
    go_wp2
    go_loopw [13] (fun i wr => ∃ j : Nat, j ≤ n ∧ i = .int .i64 j ∧ l.take j = l'.take j ∧ Below w.heap.size w wr) (fun i _ => n - (intOf i).toNat)
    case atStart => exact ⟨0, Nat.zero_le _, rfl, rfl, Below.refl _ _⟩
    case round =>
      obtain ⟨j, hj, rfl, ht, hb⟩ := hrel
      have HB := Lib.hid hb
      have HT := Lib.hid ht
      clear hb ht
      by_cases hlt : j < n
      · obtain ⟨b1, o1, x, rfl, hx, hc0, hc1, hc2, hc3⟩ := fds_at (H.out.same HB.out) hlt
        obtain ⟨b2, o2, y, rfl, hy, hd0, hd1, hd2, hd3⟩ := fds_at (H'.out.same HB.out) hlt
        have HX := Lib.hid hx
        have HY := Lib.hid hy
        clear hx hy
        by_cases hxy : x = y
        · subst hxy
          go_wp2
          go_quiet (fail)
          go_wp2
          go_roundw
          case rel => exact ⟨j + 1, by omega, by go_num, by rw [List.take_add_one, List.take_add_one, HX.out, HY.out, HT.out], HB.out.trans ((drewN_same _ _).mono HB.out.size)⟩
          case measure => simp [intOf]; omega
        · rcases neFd hxy with q | ⟨q1, q⟩ | ⟨q1, q2, q⟩ | ⟨q1, q2, q3, q⟩
          · clear hxy
            go_wp2
            go_quiet (fail)
            go_wp2
            go_ret
            exact ⟨rfl, HB.out.trans ((drewN_same _ _).mono HB.out.size)⟩
          · rw [q1] at hc0
            clear hxy q1
            go_wp2
            go_quiet (fail)
            go_wp2
            go_ret
            exact ⟨rfl, HB.out.trans ((drewN_same _ _).mono HB.out.size)⟩
          · rw [q1] at hc0
            rw [q2] at hc1
            clear hxy q1 q2
            go_wp2
            go_quiet (fail)
            go_wp2
            go_ret
            exact ⟨rfl, HB.out.trans ((drewN_same _ _).mono HB.out.size)⟩
          · rw [q1] at hc0
            rw [q2] at hc1
            rw [q3] at hc2
            clear hxy q1 q2 q3
            go_wp2
            go_quiet (fail)
            go_wp2
            go_ret
            exact ⟨rfl, HB.out.trans ((drewN_same _ _).mono HB.out.size)⟩
      · exfalso
        have h1 := HT.out
        rw [List.take_of_length_le (by rw [H.out.len]; omega), List.take_of_length_le (by rw [H'.out.len]; omega)] at h1
        exact HE.out h1
  · have hq : ((n : Int) != (m : Int)) = true := by simp; omega
    clear hnm
    go_enter Try.func36, Try.ntmps36
    go_wp2
    go_ret
    exact ⟨rfl, Below.refl _ _⟩
set_option maxRecDepth 100000 in
theorem equalFormats_yes {a b : Option Addr} {n m c d : Nat} {l : List Fd} {w : World} (h : Fds w a n l) (h' : Fds w b m l) :
    Calls Try.prog 14 #[.slice a n c, .slice b m d] w (Told (.bool true) w) := by
  have H := Lib.hid h
  have H' := Lib.hid h'
  clear h h'
  go_enter Try.func14, Try.ntmps14
  go_wp2_with fail
  refine (slicesEqualF_yes H.out H'.out).mono ?_
  rintro e w1 ⟨rfl, hb1⟩
  have HB1 := Lib.hid hb1
  clear hb1
  go_wp2
  go_ret
  exact ⟨rfl, HB1.out⟩
set_option maxRecDepth 100000 in
theorem equalFormats_no {a b : Option Addr} {n m c d : Nat} {l l' : List Fd} {w : World} (h : Fds w a n l) (h' : Fds w b m l') (hne : l ≠ l') :
    Calls Try.prog 14 #[.slice a n c, .slice b m d] w (Told (.bool false) w) := by
  have H := Lib.hid h
  have H' := Lib.hid h'
  have HE := Lib.hid hne
  clear h h' hne
  go_enter Try.func14, Try.ntmps14
  go_wp2_with fail
  refine (slicesEqualF_no H.out H'.out HE.out).mono ?_
  rintro e w1 ⟨rfl, hb1⟩
  have HB1 := Lib.hid hb1
  clear hb1
  go_wp2
  go_ret
  exact ⟨rfl, HB1.out⟩
end Go.Proofs.Ytjkjnhkamieljaa
