/- Machines are compared: by the model. -/
import Derived.Test.YtaaogdhkehkamaaEqMc
namespace Go.Proofs.Ytaaogdhkehkamaa
open Go.ChangeShapes Go.WideShapes Go.ChangeAt Go.RowKit
set_option linter.unusedVariables false

set_option maxHeartbeats 1000000 in
set_option maxRecDepth 100000 in
theorem specEqualMachines_any {w : World} {v v' : Value} {x y : Mac} (h : MacW w v x) (h' : MacW w v' y) : Calls Try.prog 33 #[v, v'] w (Told (.bool (decide (x = y))) w) := by
  obtain ⟨a, n, c, b, m, d, rfl, h1, h2, h3⟩ := h
  obtain ⟨a', n', c', b', m', d', rfl, h1', h2', h3'⟩ := h'
  have e1 := h1.len
  have e2 := h2.len
  have e1' := h1'.len
  have e2' := h2'.len
  have hn := h1.fits
  have hm := h2.fits
  have hn' := h1'.fits
  have hm' := h2'.fits
  have H1 := Lib.hid h1
  have H2 := Lib.hid h2
  have H1' := Lib.hid h1'
  have H2' := Lib.hid h2'
  clear h1 h2 h3 h1' h2' h3'
  have HX : Hid ((x = y) ↔ (x.st = y.st ∧ x.ends = y.ends ∧ x.moves = y.moves)) := Lib.hid (by cases x; cases y; simp)
  obtain ⟨HW, hA, hM, hsz⟩ := two_boxes w #[.int .i64 x.st, .slice a n c, .slice b m d] #[.int .i64 y.st, .slice a' n' c', .slice b' m' d'] 27
  have HW0 := Lib.hid HW
  clear HW
  by_cases q : x.st = y.st ∧ n = n' ∧ m = m'
  · obtain ⟨q0, rfl, rfl⟩ := q
    have e0 : (x.st != y.st) = false := by simpa using q0
    have HQ := Lib.hid q0
    clear q0
    have HE := Lib.hid (And.intro e1 (And.intro e2 (And.intro e1' e2')))
    clear e1 e2 e1' e2'
    go_enter Try.func33, Try.ntmps33
    go_wp2_with fail
    generalize ((w.alloc (.cells #[.int .i64 x.st, .slice a n c, .slice b m d] 27)).alloc (.cells #[.int .i64 y.st, .slice a' n c', .slice b' m d'] 27)) = W0 at *
    have HA := Lib.hid (And.intro hA hM)
    clear hA hM
    go_loopw [5] (fun i wr => ∃ j : Nat, j ≤ n ∧ i = .int .i64 j ∧ x.ends.take j = y.ends.take j ∧ Below W0.heap.size W0 wr) (fun i _ => n - (intOf i).toNat)
    case atStart => exact ⟨0, Nat.zero_le _, rfl, rfl, Below.refl _ _⟩
    case round =>
      obtain ⟨j, hj, rfl, ht, hb⟩ := hrel
      have hA1 := (hb.block w.heap.size (by omega)).trans HA.out.1
      have hM1 := (hb.block (w.heap.size + 1) (by omega)).trans HA.out.2
      have a1 := (block_cell hA1 1).trans rfl
      have m1 := (block_cell hM1 1).trans rfl
      have a2 := (block_cell hA1 2).trans rfl
      have HB := Lib.hid hb
      have HC := Lib.hid (HW0.out.trans (hb.mono HW0.out.size))
      have HT := Lib.hid ht
      clear hb ht hA1 hM1
      by_cases hlt : j < n
      · obtain ⟨b1, o1, u, rfl, hx, hc0⟩ := bls_at (H1.out.same HC.out) hlt
        obtain ⟨b2, o2, z, rfl, hy, hd0⟩ := bls_at (H1'.out.same HC.out) hlt
        have HX1 := Lib.hid hx
        have HY1 := Lib.hid hy
        clear hx hy
        by_cases hxy : u = z
        · subst hxy
          go_wp2
          go_quiet (fail)
          go_wp2
          go_roundw
          case rel => exact ⟨j + 1, by omega, by go_num, by rw [List.take_add_one, List.take_add_one, HX1.out, HY1.out, HT.out], HB.out.trans ((drewN_same _ _).mono HB.out.size)⟩
          case measure => simp [intOf]; omega
        · have q : (u == z) = false := by simpa using hxy
          have HR : Hid (decide (x = y) = false) := Lib.hid (by
            rw [decide_eq_false_iff_not, HX.out]
            rintro ⟨_, h, _⟩
            rw [h, HY1.out] at HX1
            exact hxy (Option.some.inj HX1.out).symm)
          rw [HR.out]
          clear hxy
          go_wp2
          go_quiet (fail)
          go_wp2
          go_ret
          exact ⟨rfl, HC.out.trans ((drewN_same _ _).mono HC.out.size)⟩
      · have HT1 : Hid (x.ends = y.ends) := Lib.hid (by
          have h1 := HT.out
          rw [List.take_of_length_le (by rw [HE.out.1]; omega), List.take_of_length_le (by rw [HE.out.2.2.1]; omega)] at h1
          exact h1)
        go_wp2
        go_loopw [6] (fun i wr => ∃ j : Nat, j ≤ m ∧ i = .int .i64 j ∧ x.moves.take j = y.moves.take j ∧ Below W0.heap.size W0 wr) (fun i _ => m - (intOf i).toNat)
        case atStart => exact ⟨0, Nat.zero_le _, rfl, rfl, HB.out⟩
        case round =>
          obtain ⟨k, hk, rfl, ht, hb⟩ := hrel
          clear a1 a2 m1 HB HC
          have hA1 := (hb.block w.heap.size (by omega)).trans HA.out.1
          have hM1 := (hb.block (w.heap.size + 1) (by omega)).trans HA.out.2
          have a2 := (block_cell hA1 2).trans rfl
          have m2 := (block_cell hM1 2).trans rfl
          have HB := Lib.hid hb
          have HC := Lib.hid (HW0.out.trans (hb.mono HW0.out.size))
          have HT2 := Lib.hid ht
          clear hb ht hA1 hM1
          by_cases hlt2 : k < m
          · obtain ⟨b1, o1, u, rfl, hx, hc0, hc1, hc2, hc3⟩ := mvs_at (H2.out.same HC.out) hlt2
            obtain ⟨b2, o2, z, rfl, hy, hd0, hd1, hd2, hd3⟩ := mvs_at (H2'.out.same HC.out) hlt2
            have HX1 := Lib.hid hx
            have HY1 := Lib.hid hy
            clear hx hy
            by_cases hxy : u = z
            · subst hxy
              go_wp2
              go_quiet (fail)
              go_wp2
              go_roundw
              case rel => exact ⟨k + 1, by omega, by go_num, by rw [List.take_add_one, List.take_add_one, HX1.out, HY1.out, HT2.out], HB.out.trans ((drewN_same _ _).mono HB.out.size)⟩
              case measure => simp [intOf]; omega
            · have HR : Hid (decide (x = y) = false) := Lib.hid (by
                rw [decide_eq_false_iff_not, HX.out]
                rintro ⟨_, _, h⟩
                rw [h, HY1.out] at HX1
                exact hxy (Option.some.inj HX1.out).symm)
              rw [HR.out]
              rcases neMv hxy with q | ⟨q1, q⟩ | ⟨q1, q2, q⟩ | ⟨q1, q2, q3, q⟩
              · clear hxy
                go_wp2
                go_quiet (fail)
                go_wp2
                go_ret
                exact ⟨rfl, HC.out.trans ((drewN_same _ _).mono HC.out.size)⟩
              · rw [q1] at hc0
                clear hxy q1
                go_wp2
                go_quiet (fail)
                go_wp2
                go_ret
                exact ⟨rfl, HC.out.trans ((drewN_same _ _).mono HC.out.size)⟩
              · rw [q1] at hc0
                rw [q2] at hc1
                clear hxy q1 q2
                go_wp2
                go_quiet (fail)
                go_wp2
                go_ret
                exact ⟨rfl, HC.out.trans ((drewN_same _ _).mono HC.out.size)⟩
              · rw [q1] at hc0
                rw [q2] at hc1
                rw [q3] at hc2
                clear hxy q1 q2 q3
                go_wp2
                go_quiet (fail)
                go_wp2
                go_ret
                exact ⟨rfl, HC.out.trans ((drewN_same _ _).mono HC.out.size)⟩
          · have HR : Hid (decide (x = y) = true) := Lib.hid (by
              have h1 := HT2.out
              rw [List.take_of_length_le (by rw [HE.out.2.1]; omega), List.take_of_length_le (by rw [HE.out.2.2.2]; omega)] at h1
              rw [decide_eq_true_iff, HX.out]
              exact ⟨HQ.out, HT1.out, h1⟩)
            go_wp2
            (try simp only [Exit.inBlock, Exit.then])
            refine bodyPost_ret (by simp [results, Try.results33, go_sem]; try rfl) rfl ?_
            exact ⟨by rw [HR.out], HC.out⟩
  · have HR : Hid (decide (x = y) = false) := Lib.hid (by
      rw [decide_eq_false_iff_not, HX.out]
      rintro ⟨g0, g1, g2⟩
      rw [g1] at e1
      rw [g2] at e2
      exact q ⟨g0, by omega, by omega⟩)
    rw [HR.out]
    clear e1 e2 e1' e2'
    by_cases q0 : x.st = y.st
    · have f0 : (x.st != y.st) = false := by simpa using q0
      by_cases q1 : n = n'
      · have f1 : ((n : Int) != (n' : Int)) = false := by simp; omega
        have f2 : ((m : Int) != (m' : Int)) = true := by
          have : ¬ m = m' := fun e => q ⟨q0, q1, e⟩
          simp; omega
        clear q q0 q1
        go_enter Try.func33, Try.ntmps33
        go_wp2_with fail
        go_ret
        exact ⟨rfl, HW0.out⟩
      · have f1 : ((n : Int) != (n' : Int)) = true := by simp; omega
        clear q q0 q1
        go_enter Try.func33, Try.ntmps33
        go_wp2_with fail
        go_ret
        exact ⟨rfl, HW0.out⟩
    · have f0 : (x.st != y.st) = true := by simpa using q0
      clear q q0
      go_enter Try.func33, Try.ntmps33
      go_wp2_with fail
      go_ret
      exact ⟨rfl, HW0.out⟩
end Go.Proofs.Ytaaogdhkehkamaa
