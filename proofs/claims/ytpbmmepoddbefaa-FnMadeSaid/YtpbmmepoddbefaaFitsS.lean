/- Whether a value fits a field: by the model. -/
import Derived.Test.YtpbmmepoddbefaaFits
import Derived.Test.YtpbmmepoddbefaaThereM
namespace Go.Proofs.Ytpbmmepoddbefaa
open Go.ChangeShapes Go.WideShapes Go.ChangeAt Go.RowKit
set_option linter.unusedVariables false

theorem fits_items {x : Fd} {k : Int} {y : List Int} {g : Int} (h : (x.kind = 2 ∧ g = 255) ∨ (x.kind = 3 ∧ g = 99)) : fitsField x k y = (decide (k = 0) && (decide ((y.length : Int) ≤ x.max) && allIn y g)) := by
  unfold fitsField fitIts
  rcases h with ⟨h, rfl⟩ | ⟨h, rfl⟩
  · rw [if_neg (by omega), if_pos h]
  · rw [if_neg (by omega), if_neg (by omega), if_pos h]
set_option maxHeartbeats 4000000 in
set_option maxRecDepth 100000 in
theorem specFitsField_any (x : Fd) (k : Int) (p : Option Addr) (m c : Nat) (y : List Int) (w : World) (h : Nums .i64 w p m y) :
    Calls Try.prog 86 #[x.val, .agg #[.int .i64 k, .slice p m c]] w (Told (.bool (fitsField x k y)) w) := by
  obtain ⟨xk, xm, xt, xi⟩ := x
  unfold Fd.val
  have hl := h.len
  have hfit := h.fits
  have HB : Hid (Below w.heap.size w ((w.alloc (.cells #[.int .i64 xk, .int .i64 xm, .int .i64 xt, .int .i64 xi] 56)).alloc (.cells #[.int .i64 k, .slice p m c] 59))) := Lib.hid (((Below.refl _ w).alloc (Nat.le_refl _) _).alloc (by simp) _)
  have H := Lib.hid (h.same HB.out)
  clear h
  by_cases h1 : xk = 1
  · have b1 : (xk == 1) = true := by simpa using h1
    have ef : fitsField ⟨xk, xm, xt, xi⟩ k y = (decide (0 ≤ k ∧ k ≤ xm) && decide (y.length = 0)) := by unfold fitsField; dsimp only; rw [if_pos h1]
    rw [ef]
    clear ef h1
    by_cases h2 : 0 ≤ k ∧ k ≤ xm
    · have KR := Lib.hid (fun w0 => l1R_t (decide_eq_true h2) w0)
      rw [decide_eq_true h2]
      clear h2
      go_enter Try.func86, Try.ntmps86
      go_wp2_with (go_at_call 49; refine (KR.out _).mono ?_; rintro e w' ⟨rfl, rfl⟩)
      go_ret
      exact ⟨by rw [hl]; by_cases e : m = 0 <;> simp [e], HB.out⟩
    · have KR := Lib.hid (fun w0 => l1R_t (decide_eq_false h2) w0)
      rw [decide_eq_false h2]
      clear h2
      go_enter Try.func86, Try.ntmps86
      go_wp2_with (go_at_call 49; refine (KR.out _).mono ?_; rintro e w' ⟨rfl, rfl⟩)
      go_ret
      exact ⟨rfl, HB.out⟩
  · have b1 : (xk == 1) = false := by simpa using h1
    by_cases h2 : xk = 3
    · have b2 : (xk == 3) = true := by simpa using h2
      rw [fits_items (x := ⟨xk, xm, xt, xi⟩) (g := 99) (Or.inr ⟨h2, rfl⟩)]
      clear h1 h2
      go_enter Try.func86, Try.ntmps86
      go_wp2_with fail
      go_loop [6] (fun i => ∃ j : Nat, j ≤ m ∧ i = .int .i64 j ∧ allIn (y.take j) 99 = true) (fun i => m - (intOf i).toNat)
      case atStart => exact ⟨0, Nat.zero_le _, rfl, allIn_zero _ _⟩
      case round =>
        obtain ⟨j, hj, rfl, hall⟩ := hrel
        have HA := Lib.hid hall
        clear hall
        by_cases hlt : j < m
        · obtain ⟨ad, z, rfl, hz, hc⟩ := H.out.at_ hlt
          by_cases hi : 0 ≤ z ∧ z ≤ 99
          · have HS := Lib.hid (allIn_step HA.out hz hi)
            have K := Lib.hid (fun w0 => l1R_t (decide_eq_true hi) w0)
            clear hz hi
            go_wp2_with (go_at_call 49; refine (K.out _).mono ?_; rintro e w' ⟨rfl, rfl⟩)
            go_round
            case rel => exact ⟨j + 1, by omega, by go_num, HS.out⟩
            case measure => simp [intOf]; omega
          · have HE := Lib.hid (allIn_no hz hi)
            have K := Lib.hid (fun w0 => l1R_t (decide_eq_false hi) w0)
            clear hz hi
            go_wp2_with (go_at_call 49; refine (K.out _).mono ?_; rintro e w' ⟨rfl, rfl⟩)
            go_ret
            exact ⟨by rw [HE.out, Bool.and_false, Bool.and_false]; rfl, HB.out⟩
        · obtain rfl : j = m := by omega
          have h2 := HA.out
          rw [List.take_of_length_le (by omega)] at h2
          have HE := Lib.hid h2
          clear h2
          by_cases hk : k = 0
          · have bk : (k == 0) = true := by simpa using hk
            have HK := Lib.hid (decide_eq_true hk)
            clear hk
            go_wp2_with fail
            go_ret
            exact ⟨by rw [HE.out, HK.out]; simp, HB.out⟩
          · have bk : (k == 0) = false := by simpa using hk
            have HK := Lib.hid (decide_eq_false hk)
            clear hk
            go_wp2_with fail
            go_ret
            exact ⟨by rw [HK.out]; rfl, HB.out⟩
    · have b2 : (xk == 3) = false := by simpa using h2
      by_cases h3 : xk = 2
      · have b3 : (xk == 2) = true := by simpa using h3
        rw [fits_items (x := ⟨xk, xm, xt, xi⟩) (g := 255) (Or.inl ⟨h3, rfl⟩)]
        clear h1 h2 h3
        go_enter Try.func86, Try.ntmps86
        go_wp2_with fail
        go_loop [6] (fun i => ∃ j : Nat, j ≤ m ∧ i = .int .i64 j ∧ allIn (y.take j) 255 = true) (fun i => m - (intOf i).toNat)
        case atStart => exact ⟨0, Nat.zero_le _, rfl, allIn_zero _ _⟩
        case round =>
          obtain ⟨j, hj, rfl, hall⟩ := hrel
          have HA := Lib.hid hall
          clear hall
          by_cases hlt : j < m
          · obtain ⟨ad, z, rfl, hz, hc⟩ := H.out.at_ hlt
            by_cases hi : 0 ≤ z ∧ z ≤ 255
            · have HS := Lib.hid (allIn_step HA.out hz hi)
              have K := Lib.hid (fun w0 => l1R_t (decide_eq_true hi) w0)
              clear hz hi
              go_wp2_with (go_at_call 49; refine (K.out _).mono ?_; rintro e w' ⟨rfl, rfl⟩)
              go_round
              case rel => exact ⟨j + 1, by omega, by go_num, HS.out⟩
              case measure => simp [intOf]; omega
            · have HE := Lib.hid (allIn_no hz hi)
              have K := Lib.hid (fun w0 => l1R_t (decide_eq_false hi) w0)
              clear hz hi
              go_wp2_with (go_at_call 49; refine (K.out _).mono ?_; rintro e w' ⟨rfl, rfl⟩)
              go_ret
              exact ⟨by rw [HE.out, Bool.and_false, Bool.and_false]; rfl, HB.out⟩
          · obtain rfl : j = m := by omega
            have h2 := HA.out
            rw [List.take_of_length_le (by omega)] at h2
            have HE := Lib.hid h2
            clear h2
            by_cases hk : k = 0
            · have bk : (k == 0) = true := by simpa using hk
              have HK := Lib.hid (decide_eq_true hk)
              clear hk
              go_wp2_with fail
              go_ret
              exact ⟨by rw [HE.out, HK.out]; simp, HB.out⟩
            · have bk : (k == 0) = false := by simpa using hk
              have HK := Lib.hid (decide_eq_false hk)
              clear hk
              go_wp2_with fail
              go_ret
              exact ⟨by rw [HK.out]; rfl, HB.out⟩
      · have b3 : (xk == 2) = false := by simpa using h3
        have ef : fitsField ⟨xk, xm, xt, xi⟩ k y = false := by unfold fitsField; dsimp only; rw [if_neg h1, if_neg h3, if_neg h2]
        rw [ef]
        clear ef h1 h2 h3
        go_enter Try.func86, Try.ntmps86
        go_wp2_with fail
        go_ret
        exact ⟨rfl, HB.out⟩
end Go.Proofs.Ytpbmmepoddbefaa
