/- Whether a field is there: by the model. -/
import Derived.Test.YtpbmmepoddbefaaThere
namespace Go.Proofs.Ytpbmmepoddbefaa
open Go.ChangeShapes Go.WideShapes Go.ChangeAt Go.RowKit
set_option linter.unusedVariables false

theorem l1R_t {n l h : Int} {x : Bool} (e : decide (l ≤ n ∧ n ≤ h) = x) (w : World) :
    Calls Try.prog 49 #[.int .i64 n, .int .i64 l, .int .i64 h] w fun e w' => e = .returned (.bool x) ∧ w' = w := (l1R_any n l h w).mono fun e' w' ⟨h1, h2⟩ => ⟨by rw [h1, e], h2.symm⟩
set_option maxHeartbeats 2000000 in
set_option maxRecDepth 100000 in
theorem specIsThere_any (a : Option Addr) (n c : Nat) (l : List Fd) (b : Option Addr) (m d : Nat) (v : List Vl) (i : Int) (w : World) (h : Fds w a n l) (hv : Vals w b m v) (hn : n ≤ 1000000000) (hm : m ≤ 1000000000) :
    Calls Try.prog 59 #[.slice a n c, .slice b m d, .int .i64 i] w (Told (.bool (isThere l v i)) w) := by
  have H := Lib.hid h
  have HV := Lib.hid hv
  have hl := h.len
  have hvl := hv.len
  clear h hv
  by_cases h1 : 0 ≤ i ∧ i ≤ (n : Int) - 1
  · obtain ⟨k, rfl⟩ : ∃ k : Nat, i = k := ⟨i.toNat, by omega⟩
    have hkn : k < n := by omega
    have e1 : decide ((0 : Int) ≤ (k : Int) ∧ (k : Int) ≤ (n : Int) - 1) = true := decide_eq_true h1
    clear h1
    obtain ⟨bb, o, ⟨xk, xm, xt, xi⟩, rfl, hx, hc0, hc1, hc2, hc3⟩ := fds_at H.out hkn
    dsimp only at hc0 hc1 hc2 hc3
    by_cases h2 : xt = -1
    · have e2 : (xt == -1) = true := by simpa using h2
      rw [isThere_always hx h2]
      clear hx h2
      go_enter Try.func59, Try.ntmps59
      go_wp2_with (go_at_call 49; refine (l1R_any _ _ _ _).mono ?_; rw [e1]; rintro e w' ⟨rfl, rfl⟩)
      go_quiet (fail)
      go_wp2_with fail
      go_ret
      exact ⟨rfl, drewN_same _ _⟩
    · have e2 : (xt == -1) = false := by simpa using h2
      by_cases h3 : 0 ≤ xt ∧ xt ≤ (m : Int) - 1
      · have e3 : decide ((0 : Int) ≤ xt ∧ xt ≤ (m : Int) - 1) = true := decide_eq_true h3
        obtain ⟨q, rfl⟩ : ∃ q : Nat, xt = q := ⟨xt.toNat, by omega⟩
        have hqm : q < m := by omega
        clear h2 h3
        obtain ⟨b2, o2, p2, m2, d2, yk, yl, rfl, hy, hd0, hd1, hN, hr⟩ := HV.out.at_ hqm
        rw [isThere_when hx rfl hy]
        clear hx hy hN
        go_enter Try.func59, Try.ntmps59
        go_wp2_with (go_at_call 49; refine (l1R_any _ _ _ _).mono ?_; (first | rw [e1] | rw [e3]); rintro e w' ⟨rfl, rfl⟩)
        go_quiet ((go_at_call 49; exact Calls.quiet_of_same (l1R_t e3 _)))
        go_wp2_with fail
        go_ret
        exact ⟨rfl, drewN_same _ _⟩
      · have e3 : decide ((0 : Int) ≤ xt ∧ xt ≤ (m : Int) - 1) = false := decide_eq_false h3
        rw [isThere_far hx h2 (by rw [hvl]; exact h3)]
        clear hx h2 h3
        go_enter Try.func59, Try.ntmps59
        go_wp2_with (go_at_call 49; refine (l1R_any _ _ _ _).mono ?_; (first | rw [e1] | rw [e3]); rintro e w' ⟨rfl, rfl⟩)
        go_quiet ((go_at_call 49; exact Calls.quiet_of_same (l1R_t e3 _)))
        go_wp2_with fail
        go_ret
        exact ⟨rfl, drewN_same _ _⟩
  · have e1 : decide ((0 : Int) ≤ i ∧ i ≤ (n : Int) - 1) = false := decide_eq_false h1
    rw [isThere_out (by rw [hl]; exact h1)]
    clear h1
    go_enter Try.func59, Try.ntmps59
    go_wp2_with (go_at_call 49; refine (l1R_any _ _ _ _).mono ?_; rw [e1]; rintro e w' ⟨rfl, rfl⟩)
    go_ret
    exact ⟨rfl, Below.refl _ _⟩
end Go.Proofs.Ytpbmmepoddbefaa
