/- Ranges as facts, and which tags are reserved: by the program and by the model. -/
import Derived.Test.YtjmabidahofbbaaNameI
import Derived.Test.YtjmabidahofbbaaUv
import Derived.Deep.RegionHeld3
import Derived.Deep.QuietTactic
import Derived.BigQuiet
import Derived.StillTailTactics
import Derived.Handy
namespace Go.Proofs.Ytjmabidahofbbaa
open Go.ChangeShapes Go.WideShapes Go.ChangeAt Go.RowKit
set_option linter.unusedVariables false

def inB (n l h : Int) : Bool := decide (l ≤ n ∧ n ≤ h)
theorem inB_yes {n l h : Int} (h1 : l ≤ n) (h2 : n ≤ h) : inB n l h = true := decide_eq_true ⟨h1, h2⟩
theorem inB_no {n l h : Int} (h1 : ¬ (l ≤ n ∧ n ≤ h)) : inB n l h = false := decide_eq_false h1
theorem inB_iff {n l h : Int} : inB n l h = true ↔ l ≤ n ∧ n ≤ h := by unfold inB; exact decide_eq_true_iff
/-- A reserved tag. -/
def resv (t : Int) : Bool := inB t 0 255 && (t % 16 == 10)
theorem resv_in {t : Int} (h : resv t = true) : 0 ≤ t ∧ t ≤ 255 := by
  unfold resv at h
  rw [Bool.and_eq_true] at h
  exact inB_iff.1 h.1
theorem inR_b (n l h : Int) (w : World) : Calls Try.prog 55 #[.int .i64 n, .int .i64 l, .int .i64 h] w fun e w' => e = .returned (.bool (inB n l h)) ∧ w' = w := (inR_any n l h w).mono fun e' w' ⟨h1, h2⟩ => ⟨h1, h2.symm⟩
theorem l1R_b (n l h : Int) (w : World) : Calls Try.prog 58 #[.int .i64 n, .int .i64 l, .int .i64 h] w fun e w' => e = .returned (.bool (inB n l h)) ∧ w' = w := (l1R_any n l h w).mono fun e' w' ⟨h1, h2⟩ => ⟨h1, h2.symm⟩
set_option maxHeartbeats 1000000 in
set_option maxRecDepth 100000 in
theorem isReserved_any (t : Int) (w : World) : Calls Try.prog 26 #[.int .i64 t] w fun e w' => e = .returned (.bool (resv t)) ∧ w' = w := by
  have H := inR_b t 0 255
  by_cases h : 0 ≤ t ∧ t ≤ 255
  · have hb : inB t 0 255 = true := inB_yes h.1 h.2
    have hr : resv t = (t % 16 == 10) := by unfold resv; rw [hb]; rfl
    rw [hr]
    rw [hb] at H
    have h0 := h.1
    have h9 := h.2
    have hm : t.tmod 16 = t % 16 := Int.tmod_eq_emod_of_nonneg h0
    clear hb hr
    go_enter Try.func26, Try.ntmps26
    go_wp2_with (go_at_call 55; refine (H _).mono ?_; rintro e w' ⟨rfl, rfl⟩)
    go_ret
    simp
  · have hb : inB t 0 255 = false := inB_no h
    have hr : resv t = false := by unfold resv; rw [hb]; rfl
    rw [hr]
    rw [hb] at H
    clear hb hr
    go_enter Try.func26, Try.ntmps26
    go_wp2_with (go_at_call 55; refine (H _).mono ?_; rintro e w' ⟨rfl, rfl⟩)
    go_ret
    simp
set_option maxHeartbeats 1000000 in
set_option maxRecDepth 100000 in
theorem specIsReserved_any (t : Int) (w : World) : Calls Try.prog 77 #[.int .i64 t] w fun e w' => e = .returned (.bool (resv t)) ∧ w' = w := by
  have H := l1R_b t 0 255
  by_cases h : 0 ≤ t ∧ t ≤ 255
  · have hb : inB t 0 255 = true := inB_yes h.1 h.2
    have hr : resv t = (t % 16 == 10) := by unfold resv; rw [hb]; rfl
    rw [hr]
    rw [hb] at H
    have h0 := h.1
    have h9 := h.2
    have hm : t.tmod 16 = t % 16 := Int.tmod_eq_emod_of_nonneg h0
    clear hb hr
    go_enter Try.func77, Try.ntmps77
    go_wp2_with (go_at_call 58; refine (H _).mono ?_; rintro e w' ⟨rfl, rfl⟩)
    go_ret
    simp
  · have hb : inB t 0 255 = false := inB_no h
    have hr : resv t = false := by unfold resv; rw [hb]; rfl
    rw [hr]
    rw [hb] at H
    clear hb hr
    go_enter Try.func77, Try.ntmps77
    go_wp2_with (go_at_call 58; refine (H _).mono ?_; rintro e w' ⟨rfl, rfl⟩)
    go_ret
    simp
end Go.Proofs.Ytjmabidahofbbaa
