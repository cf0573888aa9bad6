/- Whether a format lies within another one; the model's part. -/
import Derived.Test.YtjkjnhkamieljaaWi
import Derived.Test.YtjkjnhkamieljaaIsF3
import Derived.Test.YtjkjnhkamieljaaEqF
import Derived.Test.YtjkjnhkamieljaaBk
namespace Go.Proofs.Ytjkjnhkamieljaa
open Go.ChangeShapes Go.WideShapes Go.ChangeAt Go.RowKit
set_option linter.unusedVariables false

theorem fdIn_not {x y : Fd} (h : fdIn x y = false) : (x.kind != y.kind) = true ∨ (x.kind = y.kind ∧ (x.cond != y.cond) = true) ∨ (x.kind = y.kind ∧ x.cond = y.cond ∧ (x.is != y.is) = true) ∨ (x.kind = y.kind ∧ x.cond = y.cond ∧ x.is = y.is ∧ ¬ x.max ≤ y.max) := by
  simp only [bne_iff_ne, ne_eq]
  by_cases h1 : x.kind = y.kind
  · by_cases h2 : x.cond = y.cond
    · by_cases h3 : x.is = y.is
      · refine Or.inr (Or.inr (Or.inr ⟨h1, h2, h3, fun h4 => ?_⟩))
        simp [fdIn, h1, h2, h3, h4] at h
      · exact Or.inr (Or.inr (Or.inl ⟨h1, h2, h3⟩))
    · exact Or.inr (Or.inl ⟨h1, h2⟩)
  · exact Or.inl h1
theorem fdIn_is {x y : Fd} (h : fdIn x y = true) : x.kind = y.kind ∧ x.cond = y.cond ∧ x.is = y.is ∧ x.max ≤ y.max := by
  simp only [fdIn, Bool.and_eq_true, decide_eq_true_eq, beq_iff_eq] at h
  exact ⟨h.1.1.2, h.1.2, h.2, h.1.1.1⟩
section
variable {a b : Option Addr} {n m c d : Nat} {l l' : List Fd} {w : World}
set_option maxHeartbeats 2000000 in
set_option maxRecDepth 100000 in
theorem specIsWithin_any (h : Fds w a n l) (h' : Fds w b m l') (hn : n ≤ 1000000000) (hm : m ≤ 1000000000) :
    Calls Try.prog 23 #[.slice a n c, .slice b m d] w (Told (.bool (within l l')) w) := by
  have F1 := Lib.hid (specIsFormat_any a n c l w h hn)
  have F2 := Lib.hid (fun (w1 : World) (hb : Below w.heap.size w w1) => specIsFormat_any b m d l' w1 (h'.same hb) hm)
  have H := Lib.hid h
  have H' := Lib.hid h'
  clear h h'
  unfold within
  cases hA : isFmt l with
  | false =>
    rw [hA] at F1
    go_enter Try.func23, Try.ntmps23
    go_wp2_with fail
    refine F1.out.mono ?_
    rintro e w1 ⟨rfl, hb1⟩
    have HB1 := Lib.hid hb1
    clear hb1
    go_wp2_with fail
    go_ret
    exact ⟨rfl, HB1.out⟩
  | true =>
    rw [hA] at F1
    cases hA' : isFmt l' with
    | false =>
      rw [hA'] at F2
      go_enter Try.func23, Try.ntmps23
      go_wp2_with fail
      refine F1.out.mono ?_
      rintro e w1 ⟨rfl, hb1⟩
      have HB1 := Lib.hid hb1
      clear hb1
      go_wp2_with fail
      refine (F2.out _ HB1.out).mono ?_
      rintro e w2 ⟨rfl, hb2⟩
      have HB2 := Lib.hid (HB1.out.trans (hb2.mono HB1.out.size))
      clear hb2
      go_wp2_with fail
      go_ret
      exact ⟨rfl, HB2.out⟩
    | true =>
      rw [hA'] at F2
      by_cases hnm : n = m
      · subst hnm
        go_enter Try.func23, Try.ntmps23
        go_wp2_with fail
        refine F1.out.mono ?_
        rintro e w1 ⟨rfl, hb1⟩
        have HB1 := Lib.hid hb1
        clear hb1
        go_wp2_with fail
        refine (F2.out _ HB1.out).mono ?_
        rintro e w2 ⟨rfl, hb2⟩
        have HB2 := Lib.hid (HB1.out.trans (hb2.mono HB1.out.size))
        clear hb2
        go_wp2_with fail
        go_loopw [5] (fun i wr => ∃ j : Nat, j ≤ n ∧ i = .int .i64 j ∧ fmtIn (l.take j) (l'.take j) = true ∧ Below w.heap.size w wr) (fun i _ => n - (intOf i).toNat)
        case atStart => exact ⟨0, Nat.zero_le _, rfl, rfl, HB2.out⟩
        case round =>
          obtain ⟨j, hj, rfl, ht, hb⟩ := hrel
          have HB := Lib.hid hb
          have HT := Lib.hid ht
          clear hb ht
          by_cases hlt : j < n
          · obtain ⟨b1, o1, x, rfl, hx, hc0, hc1, hc2, hc3⟩ := fds_at (H.out.same HB.out) hlt
            obtain ⟨b2, o2, y, rfl, hy, hd0, hd1, hd2, hd3⟩ := fds_at (H'.out.same HB.out) hlt
            have HX := Lib.hid hx
            have HY := Lib.hid hy
            clear hx hy
            cases hf : fdIn x y with
            | true =>
              obtain ⟨e1, e2, e3, e4⟩ := fdIn_is hf
              have HF := Lib.hid hf
              have e4' : decide (x.max > y.max) = false := by simp; omega
              rw [e1] at hc0
              rw [e2] at hc2
              rw [e3] at hc3
              clear hf e1 e2 e3
              go_wp2
              go_quiet (fail)
              go_wp2
              go_roundw
              case rel => exact ⟨j + 1, by omega, by go_num, fmtIn_step HT.out HX.out HY.out HF.out, HB.out.trans ((drewN_same _ _).mono HB.out.size)⟩
              case measure => simp [intOf]; omega
            | false =>
              have HF : Hid (fmtIn l l' = false) := Lib.hid (by
                cases hq : fmtIn l l' with
                | false => rfl
                | true => rw [fmtIn_at hq HX.out HY.out] at hf; cases hf)
              rcases fdIn_not hf with q | ⟨q1, q⟩ | ⟨q1, q2, q⟩ | ⟨q1, q2, q3, q⟩
              · clear hf
                go_wp2
                go_quiet (fail)
                go_wp2
                go_ret
                exact ⟨by rw [HF.out]; rfl, HB.out.trans ((drewN_same _ _).mono HB.out.size)⟩
              · rw [q1] at hc0
                clear hf q1
                go_wp2
                go_quiet (fail)
                go_wp2
                go_ret
                exact ⟨by rw [HF.out]; rfl, HB.out.trans ((drewN_same _ _).mono HB.out.size)⟩
              · rw [q1] at hc0
                rw [q2] at hc2
                clear hf q1 q2
                go_wp2
                go_quiet (fail)
                go_wp2
                go_ret
                exact ⟨by rw [HF.out]; rfl, HB.out.trans ((drewN_same _ _).mono HB.out.size)⟩
              · rw [q1] at hc0
                rw [q2] at hc2
                rw [q3] at hc3
                clear hf q1 q2 q3
                go_wp2
                go_quiet (fail)
                go_wp2
                go_ret
                exact ⟨by rw [HF.out]; rfl, HB.out.trans ((drewN_same _ _).mono HB.out.size)⟩
          · have h1 := HT.out
            rw [List.take_of_length_le (by rw [H.out.len]; omega), List.take_of_length_le (by rw [H'.out.len]; omega)] at h1
            have H1 := Lib.hid h1
            clear h1
            go_wp2_with fail
            go_ret
            exact ⟨by rw [H1.out]; rfl, HB.out⟩
      · have hq : ((n : Int) != (m : Int)) = true := by simp; omega
        have HF : Hid (fmtIn l l' = false) := Lib.hid (by
          cases hq : fmtIn l l' with
          | false => rfl
          | true => exact absurd (by rw [← H.out.len, ← H'.out.len, fmtIn_len hq]) hnm)
        clear hnm
        go_enter Try.func23, Try.ntmps23
        go_wp2_with fail
        refine F1.out.mono ?_
        rintro e w1 ⟨rfl, hb1⟩
        have HB1 := Lib.hid hb1
        clear hb1
        go_wp2_with fail
        refine (F2.out _ HB1.out).mono ?_
        rintro e w2 ⟨rfl, hb2⟩
        have HB2 := Lib.hid (HB1.out.trans (hb2.mono HB1.out.size))
        clear hb2
        go_wp2_with fail
        go_ret
        exact ⟨by rw [HF.out]; rfl, HB2.out⟩
end
end Go.Proofs.Ytjkjnhkamieljaa
