/- Being a format, by the model. Lists of values, each a number and a list of integers: what a walk is told of one that is read. No function of the program is spoken of. Whether a field is there: by the program. Whether a value fits a field: by the program. Lists of integers are compared: by the library. -/
import Derived.Test.YtjkjnhkamieljaaG3
import Derived.Test.YtjkjnhkamieljaaG2
import Derived.Deep.RegionHeld3
import Derived.Deep.QuietTactic
import Derived.BigQuiet
import Derived.Test.YtjkjnhkamieljaaG1
import Derived.RegionTactic
namespace Go.Proofs.Ytjkjnhkamieljaa
open Go.ChangeShapes Go.WideShapes Go.ChangeAt Go.RowKit
set_option linter.unusedVariables false

theorem l1R_q (n l h : Int) (w : World) :
    Calls Try.prog 50 #[.int .i64 n, .int .i64 l, .int .i64 h] w fun e w' => e = .returned (.bool (decide (l ≤ n ∧ n ≤ h))) ∧ w' = w := (l1R_any n l h w).mono fun e w' ⟨h1, h2⟩ => ⟨h1, h2.symm⟩

set_option maxHeartbeats 8000000 in
set_option maxRecDepth 100000 in
theorem specIsFormat_any (a : Option Addr) (n c : Nat) (l : List Fd) (w : World) (h : Fds w a n l) (hn : n ≤ 1000000000) :
    Calls Try.prog 46 #[.slice a n c] w (Told (.bool (isFmt l)) w) := by
  have H := Lib.hid h
  have hl := Lib.hid h.len
  clear h
  go_enter Try.func46, Try.ntmps46
  go_wp2_with fail
  go_loopw [3] (fun i wr => ∃ j : Nat, j ≤ n ∧ i = .int .i64 j ∧ okTo l j ∧ Below w.heap.size w wr) (fun i _ => n - (intOf i).toNat)
  case atStart => exact ⟨0, Nat.zero_le _, rfl, okTo_zero l, Below.refl _ _⟩
  case round =>
    obtain ⟨j, hj, rfl, hok, hb⟩ := hrel
    have HB := Lib.hid hb
    have HO := Lib.hid hok
    clear hb hok
    by_cases hlt : j < n
    · obtain ⟨b, o, ⟨xk, xm, xt, xi⟩, rfl, hx, hc0, hc1, hc2, hc3⟩ := fds_at (H.out.same HB.out) hlt
      have HX := Lib.hid hx
      have hjl : j < l.length := by rw [hl.out]; exact hlt
      have htl : (l.take j).length = j := by rw [List.length_take]; omega
      have HTL := Lib.hid htl
      clear hx htl
      dsimp only at hc0 hc1 hc2 hc3
      by_cases h1 : 1 ≤ xk ∧ xk ≤ 3
      · have e1 : decide ((1 : Int) ≤ xk ∧ xk ≤ 3) = true := by simpa using h1
        by_cases h2 : xk = 1
        · have e2 : (xk == 1) = true := by simpa using h2
          have hM : mostOf xk = 99 := by rw [h2]; rfl
          clear h1 h2
          by_cases h3 : 1 ≤ xm ∧ xm ≤ 99
          · have e3 : decide ((1 : Int) ≤ xm ∧ xm ≤ 99) = true := by simpa using h3
            have hfo1 : ∀ cb, condOk (l.take j) ⟨xk, xm, xt, xi⟩ = cb → fieldOk (l.take j) ⟨xk, xm, xt, xi⟩ = cb := fun cb hcb => by unfold fieldOk; rw [hcb]; dsimp only; rw [hM, e3]; simp
            have HF := Lib.hid hfo1
            clear hfo1 h3 hM
            by_cases h4 : xt = -1
            · have e4 : (xt == -1) = true := by simpa using h4
              by_cases h5 : xi = 0
              · have e5 : (xi != 0) = false := by simpa using h5
                have hcd : condOk (l.take j) ⟨xk, xm, xt, xi⟩ = true := by unfold condOk; dsimp only; rw [if_pos h4]; simpa using h5
                clear h4 h5
                have hfo : fieldOk (l.take j) ⟨xk, xm, xt, xi⟩ = true := by exact HF.out _ hcd
                have HOK := Lib.hid (okTo_succ HO.out HX.out hfo)
                clear hfo
                go_wp2_with (go_at_call 50; refine (l1R_any _ _ _ _).mono ?_; (first | rw [e1] | rw [e3]); rintro e w' ⟨rfl, rfl⟩)
                go_roundw
                case rel => exact ⟨j + 1, by omega, by go_num, HOK.out, HB.out.alloc HB.out.size _⟩
                case measure => simp [intOf]; omega
              · have e5 : (xi != 0) = true := by simpa using h5
                have hcd : condOk (l.take j) ⟨xk, xm, xt, xi⟩ = false := by unfold condOk; dsimp only; rw [if_pos h4]; simpa using h5
                clear h4 h5
                have hfo : fieldOk (l.take j) ⟨xk, xm, xt, xi⟩ = false := by exact HF.out _ hcd
                have HNO := Lib.hid (isFmt_no HX.out hfo)
                clear hfo
                go_wp2_with (go_at_call 50; refine (l1R_any _ _ _ _).mono ?_; (first | rw [e1] | rw [e3]); rintro e w' ⟨rfl, rfl⟩)
                go_ret
                exact ⟨by rw [HNO.out]; rfl, HB.out.alloc HB.out.size _⟩
            · have e4 : (xt == -1) = false := by simpa using h4
              by_cases h5 : 0 ≤ xt ∧ xt ≤ (j : Int) - 1
              · obtain ⟨k, rfl⟩ : ∃ k : Nat, xt = k := ⟨xt.toNat, by omega⟩
                have hkj : k < j := by omega
                have hkn : k < n := by omega
                have hkn2 : (k : Int) < (n : Int) := by omega
                have e5 : decide ((0 : Int) ≤ (k : Int) ∧ (k : Int) ≤ (j : Int) - 1) = true := by simpa using h5
                obtain ⟨b', o', g, hbo, hg, hd0, hd1, hd2, hd3⟩ := fds_at (H.out.same HB.out) (j := k) hkn
                cases hbo
                have hgt : (l.take j)[k]? = some g := by rw [List.getElem?_take, if_pos hkj]; exact hg
                have hcd0 : condOk (l.take j) ⟨xk, xm, k, xi⟩ = (decide (g.kind = 1) && decide (g.cond = -1) && decide (0 ≤ xi ∧ xi ≤ g.max)) := by
                  unfold condOk
                  dsimp only
                  rw [if_neg h4, HTL.out, decide_eq_true h5, Int.toNat_natCast, hgt]
                  rfl
                have ha0 : ∀ ob, (wr.alloc ob).cell? ⟨b, o + k * 4, none⟩ = some (.int .i64 g.kind) := fun ob => by rw [(alloc_same wr ob).cell (cell_in hd0)]; exact hd0
                have ha1 : ∀ ob, (wr.alloc ob).cell? ⟨b, o + k * 4 + 1, none⟩ = some (.int .i64 g.max) := fun ob => by rw [(alloc_same wr ob).cell (cell_in hd1)]; exact hd1
                have ha2 : ∀ ob, (wr.alloc ob).cell? ⟨b, o + k * 4 + 2, none⟩ = some (.int .i64 g.cond) := fun ob => by rw [(alloc_same wr ob).cell (cell_in hd2)]; exact hd2
                have e7 : IntKind.i64.wrap ((j : Int) - 1) = (j : Int) - 1 := by simp only [IntKind.wrap, IntKind.bits, IntKind.signed]; simp; omega
                have e8 : decide ((k : Int) ≤ IntKind.i64.wrap ((j : Int) - 1)) = true := by rw [e7]; exact decide_eq_true (by omega)
                have e9 : decide ((k : Int) ≤ (j : Int) - 1) = true := decide_eq_true (by omega)
                clear hd0 hd1 hd2 hd3 hg hgt h4 h5 e7
                by_cases q1 : g.kind = 1
                · have b1 : (g.kind != 1) = false := by simpa using q1
                  by_cases q2 : g.cond = -1
                  · have b2 : (g.cond != -1) = false := by simpa using q2
                    by_cases q3 : 0 ≤ xi ∧ xi ≤ g.max
                    · have e6 : decide ((0 : Int) ≤ xi ∧ xi ≤ g.max) = true := by simpa using q3
                      rw [decide_eq_true q1, decide_eq_true q2, decide_eq_true q3] at hcd0
                      clear q1 q2 q3
                      have hfo : fieldOk (l.take j) ⟨xk, xm, k, xi⟩ = true := by exact HF.out _ hcd0
                      have HOK := Lib.hid (okTo_succ HO.out HX.out hfo)
                      clear hfo
                      go_wp2_with (go_at_call 50; refine (l1R_any _ _ _ _).mono ?_; (first | rw [e1] | rw [e3]); rintro e w' ⟨rfl, rfl⟩)
                      go_quiet ((go_at_call 50; exact Calls.quiet_of_same (l1R_q _ _ _ _)))
                      go_wp2_with (go_at_call 50; refine (l1R_any _ _ _ _).mono ?_; (first | rw [e1] | rw [e3]); rintro e w' ⟨rfl, rfl⟩)
                      go_roundw
                      case rel => exact ⟨j + 1, by omega, by go_num, HOK.out, (HB.out.alloc HB.out.size _).trans ((drewN_same _ _).mono (HB.out.alloc HB.out.size _).size)⟩
                      case measure => simp [intOf]; omega
                    · have e6 : decide ((0 : Int) ≤ xi ∧ xi ≤ g.max) = false := by simpa using q3
                      rw [decide_eq_true q1, decide_eq_true q2, decide_eq_false q3] at hcd0
                      clear q1 q2 q3
                      have hfo : fieldOk (l.take j) ⟨xk, xm, k, xi⟩ = false := by exact HF.out _ hcd0
                      have HNO := Lib.hid (isFmt_no HX.out hfo)
                      clear hfo
                      go_wp2_with (go_at_call 50; refine (l1R_any _ _ _ _).mono ?_; (first | rw [e1] | rw [e3]); rintro e w' ⟨rfl, rfl⟩)
                      go_quiet ((go_at_call 50; exact Calls.quiet_of_same (l1R_q _ _ _ _)))
                      go_wp2_with (go_at_call 50; refine (l1R_any _ _ _ _).mono ?_; (first | rw [e1] | rw [e3]); rintro e w' ⟨rfl, rfl⟩)
                      go_ret
                      exact ⟨by rw [HNO.out]; rfl, (HB.out.alloc HB.out.size _).trans ((drewN_same _ _).mono (HB.out.alloc HB.out.size _).size)⟩
                  · have b2 : (g.cond != -1) = true := by simpa using q2
                    rw [decide_eq_true q1, decide_eq_false q2] at hcd0
                    clear q1 q2
                    have hfo : fieldOk (l.take j) ⟨xk, xm, k, xi⟩ = false := by exact HF.out _ hcd0
                    have HNO := Lib.hid (isFmt_no HX.out hfo)
                    clear hfo
                    go_wp2_with (go_at_call 50; refine (l1R_any _ _ _ _).mono ?_; (first | rw [e1] | rw [e3]); rintro e w' ⟨rfl, rfl⟩)
                    go_quiet ((go_at_call 50; exact Calls.quiet_of_same (l1R_q _ _ _ _)))
                    go_wp2_with (go_at_call 50; refine (l1R_any _ _ _ _).mono ?_; (first | rw [e1] | rw [e3]); rintro e w' ⟨rfl, rfl⟩)
                    go_ret
                    exact ⟨by rw [HNO.out]; rfl, (HB.out.alloc HB.out.size _).trans ((drewN_same _ _).mono (HB.out.alloc HB.out.size _).size)⟩
                · have b1 : (g.kind != 1) = true := by simpa using q1
                  rw [decide_eq_false q1] at hcd0
                  clear q1
                  have hfo : fieldOk (l.take j) ⟨xk, xm, k, xi⟩ = false := by exact HF.out _ hcd0
                  have HNO := Lib.hid (isFmt_no HX.out hfo)
                  clear hfo
                  go_wp2_with (go_at_call 50; refine (l1R_any _ _ _ _).mono ?_; (first | rw [e1] | rw [e3]); rintro e w' ⟨rfl, rfl⟩)
                  go_quiet ((go_at_call 50; exact Calls.quiet_of_same (l1R_q _ _ _ _)))
                  go_wp2_with (go_at_call 50; refine (l1R_any _ _ _ _).mono ?_; (first | rw [e1] | rw [e3]); rintro e w' ⟨rfl, rfl⟩)
                  go_ret
                  exact ⟨by rw [HNO.out]; rfl, (HB.out.alloc HB.out.size _).trans ((drewN_same _ _).mono (HB.out.alloc HB.out.size _).size)⟩
              · have e5 : decide ((0 : Int) ≤ xt ∧ xt ≤ (j : Int) - 1) = false := by simpa using h5
                have hcd : condOk (l.take j) ⟨xk, xm, xt, xi⟩ = false := by unfold condOk; dsimp only; rw [if_neg h4, HTL.out, decide_eq_false h5]; rfl
                clear h4 h5
                have hfo : fieldOk (l.take j) ⟨xk, xm, xt, xi⟩ = false := by exact HF.out _ hcd
                have HNO := Lib.hid (isFmt_no HX.out hfo)
                clear hfo
                go_wp2_with (go_at_call 50; refine (l1R_any _ _ _ _).mono ?_; (first | rw [e1] | rw [e3]); rintro e w' ⟨rfl, rfl⟩)
                go_quiet ((go_at_call 50; exact Calls.quiet_of_same (l1R_q _ _ _ _)))
                go_wp2_with (go_at_call 50; refine (l1R_any _ _ _ _).mono ?_; (first | rw [e1] | rw [e3]); rintro e w' ⟨rfl, rfl⟩)
                go_ret
                exact ⟨by rw [HNO.out]; rfl, (HB.out.alloc HB.out.size _).trans ((drewN_same _ _).mono (HB.out.alloc HB.out.size _).size)⟩
          · have e3 : decide ((1 : Int) ≤ xm ∧ xm ≤ 99) = false := by simpa using h3
            have hfo : fieldOk (l.take j) ⟨xk, xm, xt, xi⟩ = false := by unfold fieldOk; dsimp only; rw [hM, e3]; rfl
            have HNO := Lib.hid (isFmt_no HX.out hfo)
            clear hfo
            go_wp2_with (go_at_call 50; refine (l1R_any _ _ _ _).mono ?_; (first | rw [e1] | rw [e3]); rintro e w' ⟨rfl, rfl⟩)
            go_ret
            exact ⟨by rw [HNO.out]; rfl, HB.out.alloc HB.out.size _⟩
        · have e2 : (xk == 1) = false := by simpa using h2
          have hM : mostOf xk = 5 := by unfold mostOf; rw [if_neg h2]; split <;> first | rfl | (rw [if_pos (by omega)])
          clear h1 h2
          by_cases h3 : 1 ≤ xm ∧ xm ≤ 5
          · have e3 : decide ((1 : Int) ≤ xm ∧ xm ≤ 5) = true := by simpa using h3
            have hfo1 : ∀ cb, condOk (l.take j) ⟨xk, xm, xt, xi⟩ = cb → fieldOk (l.take j) ⟨xk, xm, xt, xi⟩ = cb := fun cb hcb => by unfold fieldOk; rw [hcb]; dsimp only; rw [hM, e3]; simp
            have HF := Lib.hid hfo1
            clear hfo1 h3 hM
            by_cases h4 : xt = -1
            · have e4 : (xt == -1) = true := by simpa using h4
              by_cases h5 : xi = 0
              · have e5 : (xi != 0) = false := by simpa using h5
                have hcd : condOk (l.take j) ⟨xk, xm, xt, xi⟩ = true := by unfold condOk; dsimp only; rw [if_pos h4]; simpa using h5
                clear h4 h5
                have hfo : fieldOk (l.take j) ⟨xk, xm, xt, xi⟩ = true := by exact HF.out _ hcd
                have HOK := Lib.hid (okTo_succ HO.out HX.out hfo)
                clear hfo
                go_wp2_with (go_at_call 50; refine (l1R_any _ _ _ _).mono ?_; (first | rw [e1] | rw [e3]); rintro e w' ⟨rfl, rfl⟩)
                go_roundw
                case rel => exact ⟨j + 1, by omega, by go_num, HOK.out, HB.out.alloc HB.out.size _⟩
                case measure => simp [intOf]; omega
              · have e5 : (xi != 0) = true := by simpa using h5
                have hcd : condOk (l.take j) ⟨xk, xm, xt, xi⟩ = false := by unfold condOk; dsimp only; rw [if_pos h4]; simpa using h5
                clear h4 h5
                have hfo : fieldOk (l.take j) ⟨xk, xm, xt, xi⟩ = false := by exact HF.out _ hcd
                have HNO := Lib.hid (isFmt_no HX.out hfo)
                clear hfo
                go_wp2_with (go_at_call 50; refine (l1R_any _ _ _ _).mono ?_; (first | rw [e1] | rw [e3]); rintro e w' ⟨rfl, rfl⟩)
                go_ret
                exact ⟨by rw [HNO.out]; rfl, HB.out.alloc HB.out.size _⟩
            · have e4 : (xt == -1) = false := by simpa using h4
              by_cases h5 : 0 ≤ xt ∧ xt ≤ (j : Int) - 1
              · obtain ⟨k, rfl⟩ : ∃ k : Nat, xt = k := ⟨xt.toNat, by omega⟩
                have hkj : k < j := by omega
                have hkn : k < n := by omega
                have hkn2 : (k : Int) < (n : Int) := by omega
                have e5 : decide ((0 : Int) ≤ (k : Int) ∧ (k : Int) ≤ (j : Int) - 1) = true := by simpa using h5
                obtain ⟨b', o', g, hbo, hg, hd0, hd1, hd2, hd3⟩ := fds_at (H.out.same HB.out) (j := k) hkn
                cases hbo
                have hgt : (l.take j)[k]? = some g := by rw [List.getElem?_take, if_pos hkj]; exact hg
                have hcd0 : condOk (l.take j) ⟨xk, xm, k, xi⟩ = (decide (g.kind = 1) && decide (g.cond = -1) && decide (0 ≤ xi ∧ xi ≤ g.max)) := by
                  unfold condOk
                  dsimp only
                  rw [if_neg h4, HTL.out, decide_eq_true h5, Int.toNat_natCast, hgt]
                  rfl
                have ha0 : ∀ ob, (wr.alloc ob).cell? ⟨b, o + k * 4, none⟩ = some (.int .i64 g.kind) := fun ob => by rw [(alloc_same wr ob).cell (cell_in hd0)]; exact hd0
                have ha1 : ∀ ob, (wr.alloc ob).cell? ⟨b, o + k * 4 + 1, none⟩ = some (.int .i64 g.max) := fun ob => by rw [(alloc_same wr ob).cell (cell_in hd1)]; exact hd1
                have ha2 : ∀ ob, (wr.alloc ob).cell? ⟨b, o + k * 4 + 2, none⟩ = some (.int .i64 g.cond) := fun ob => by rw [(alloc_same wr ob).cell (cell_in hd2)]; exact hd2
                have e7 : IntKind.i64.wrap ((j : Int) - 1) = (j : Int) - 1 := by simp only [IntKind.wrap, IntKind.bits, IntKind.signed]; simp; omega
                have e8 : decide ((k : Int) ≤ IntKind.i64.wrap ((j : Int) - 1)) = true := by rw [e7]; exact decide_eq_true (by omega)
                have e9 : decide ((k : Int) ≤ (j : Int) - 1) = true := decide_eq_true (by omega)
                clear hd0 hd1 hd2 hd3 hg hgt h4 h5 e7
                by_cases q1 : g.kind = 1
                · have b1 : (g.kind != 1) = false := by simpa using q1
                  by_cases q2 : g.cond = -1
                  · have b2 : (g.cond != -1) = false := by simpa using q2
                    by_cases q3 : 0 ≤ xi ∧ xi ≤ g.max
                    · have e6 : decide ((0 : Int) ≤ xi ∧ xi ≤ g.max) = true := by simpa using q3
                      rw [decide_eq_true q1, decide_eq_true q2, decide_eq_true q3] at hcd0
                      clear q1 q2 q3
                      have hfo : fieldOk (l.take j) ⟨xk, xm, k, xi⟩ = true := by exact HF.out _ hcd0
                      have HOK := Lib.hid (okTo_succ HO.out HX.out hfo)
                      clear hfo
                      go_wp2_with (go_at_call 50; refine (l1R_any _ _ _ _).mono ?_; (first | rw [e1] | rw [e3]); rintro e w' ⟨rfl, rfl⟩)
                      go_quiet ((go_at_call 50; exact Calls.quiet_of_same (l1R_q _ _ _ _)))
                      go_wp2_with (go_at_call 50; refine (l1R_any _ _ _ _).mono ?_; (first | rw [e1] | rw [e3]); rintro e w' ⟨rfl, rfl⟩)
                      go_roundw
                      case rel => exact ⟨j + 1, by omega, by go_num, HOK.out, (HB.out.alloc HB.out.size _).trans ((drewN_same _ _).mono (HB.out.alloc HB.out.size _).size)⟩
                      case measure => simp [intOf]; omega
                    · have e6 : decide ((0 : Int) ≤ xi ∧ xi ≤ g.max) = false := by simpa using q3
                      rw [decide_eq_true q1, decide_eq_true q2, decide_eq_false q3] at hcd0
                      clear q1 q2 q3
                      have hfo : fieldOk (l.take j) ⟨xk, xm, k, xi⟩ = false := by exact HF.out _ hcd0
                      have HNO := Lib.hid (isFmt_no HX.out hfo)
                      clear hfo
                      go_wp2_with (go_at_call 50; refine (l1R_any _ _ _ _).mono ?_; (first | rw [e1] | rw [e3]); rintro e w' ⟨rfl, rfl⟩)
                      go_quiet ((go_at_call 50; exact Calls.quiet_of_same (l1R_q _ _ _ _)))
                      go_wp2_with (go_at_call 50; refine (l1R_any _ _ _ _).mono ?_; (first | rw [e1] | rw [e3]); rintro e w' ⟨rfl, rfl⟩)
                      go_ret
                      exact ⟨by rw [HNO.out]; rfl, (HB.out.alloc HB.out.size _).trans ((drewN_same _ _).mono (HB.out.alloc HB.out.size _).size)⟩
                  · have b2 : (g.cond != -1) = true := by simpa using q2
                    rw [decide_eq_true q1, decide_eq_false q2] at hcd0
                    clear q1 q2
                    have hfo : fieldOk (l.take j) ⟨xk, xm, k, xi⟩ = false := by exact HF.out _ hcd0
                    have HNO := Lib.hid (isFmt_no HX.out hfo)
                    clear hfo
                    go_wp2_with (go_at_call 50; refine (l1R_any _ _ _ _).mono ?_; (first | rw [e1] | rw [e3]); rintro e w' ⟨rfl, rfl⟩)
                    go_quiet ((go_at_call 50; exact Calls.quiet_of_same (l1R_q _ _ _ _)))
                    go_wp2_with (go_at_call 50; refine (l1R_any _ _ _ _).mono ?_; (first | rw [e1] | rw [e3]); rintro e w' ⟨rfl, rfl⟩)
                    go_ret
                    exact ⟨by rw [HNO.out]; rfl, (HB.out.alloc HB.out.size _).trans ((drewN_same _ _).mono (HB.out.alloc HB.out.size _).size)⟩
                · have b1 : (g.kind != 1) = true := by simpa using q1
                  rw [decide_eq_false q1] at hcd0
                  clear q1
                  have hfo : fieldOk (l.take j) ⟨xk, xm, k, xi⟩ = false := by exact HF.out _ hcd0
                  have HNO := Lib.hid (isFmt_no HX.out hfo)
                  clear hfo
                  go_wp2_with (go_at_call 50; refine (l1R_any _ _ _ _).mono ?_; (first | rw [e1] | rw [e3]); rintro e w' ⟨rfl, rfl⟩)
                  go_quiet ((go_at_call 50; exact Calls.quiet_of_same (l1R_q _ _ _ _)))
                  go_wp2_with (go_at_call 50; refine (l1R_any _ _ _ _).mono ?_; (first | rw [e1] | rw [e3]); rintro e w' ⟨rfl, rfl⟩)
                  go_ret
                  exact ⟨by rw [HNO.out]; rfl, (HB.out.alloc HB.out.size _).trans ((drewN_same _ _).mono (HB.out.alloc HB.out.size _).size)⟩
              · have e5 : decide ((0 : Int) ≤ xt ∧ xt ≤ (j : Int) - 1) = false := by simpa using h5
                have hcd : condOk (l.take j) ⟨xk, xm, xt, xi⟩ = false := by unfold condOk; dsimp only; rw [if_neg h4, HTL.out, decide_eq_false h5]; rfl
                clear h4 h5
                have hfo : fieldOk (l.take j) ⟨xk, xm, xt, xi⟩ = false := by exact HF.out _ hcd
                have HNO := Lib.hid (isFmt_no HX.out hfo)
                clear hfo
                go_wp2_with (go_at_call 50; refine (l1R_any _ _ _ _).mono ?_; (first | rw [e1] | rw [e3]); rintro e w' ⟨rfl, rfl⟩)
                go_quiet ((go_at_call 50; exact Calls.quiet_of_same (l1R_q _ _ _ _)))
                go_wp2_with (go_at_call 50; refine (l1R_any _ _ _ _).mono ?_; (first | rw [e1] | rw [e3]); rintro e w' ⟨rfl, rfl⟩)
                go_ret
                exact ⟨by rw [HNO.out]; rfl, (HB.out.alloc HB.out.size _).trans ((drewN_same _ _).mono (HB.out.alloc HB.out.size _).size)⟩
          · have e3 : decide ((1 : Int) ≤ xm ∧ xm ≤ 5) = false := by simpa using h3
            have hfo : fieldOk (l.take j) ⟨xk, xm, xt, xi⟩ = false := by unfold fieldOk; dsimp only; rw [hM, e3]; rfl
            have HNO := Lib.hid (isFmt_no HX.out hfo)
            clear hfo
            go_wp2_with (go_at_call 50; refine (l1R_any _ _ _ _).mono ?_; (first | rw [e1] | rw [e3]); rintro e w' ⟨rfl, rfl⟩)
            go_ret
            exact ⟨by rw [HNO.out]; rfl, HB.out.alloc HB.out.size _⟩
      · have e1 : decide ((1 : Int) ≤ xk ∧ xk ≤ 3) = false := by simpa using h1
        have e2 : (xk == 1) = false := by simp; omega
        have hM : mostOf xk = 0 := by unfold mostOf; rw [if_neg (by omega), if_neg (by omega), if_neg (by omega)]
        have hfo : fieldOk (l.take j) ⟨xk, xm, xt, xi⟩ = false := by unfold fieldOk; dsimp only; rw [hM, decide_eq_false (by omega)]; rfl
        have HNO := Lib.hid (isFmt_no HX.out hfo)
        clear hfo
        go_wp2_with (go_at_call 50; refine (l1R_any _ _ _ _).mono ?_; (first | rw [e1]); rintro e w' ⟨rfl, rfl⟩)
        go_ret
        exact ⟨by rw [HNO.out]; rfl, HB.out.alloc HB.out.size _⟩
    · obtain rfl : j = n := by omega
      by_cases hlen : 1 ≤ j ∧ j ≤ 6
      · have e0 : decide ((1 : Int) ≤ (j : Int) ∧ (j : Int) ≤ 6) = true := by simp; omega
        have HY := Lib.hid (isFmt_yes (l := l) (by rw [hl.out]; exact hlen) (by rw [hl.out]; exact HO.out))
        clear hlen
        go_wp2_with (go_at_call 50; refine (l1R_any _ _ _ _).mono ?_; rw [e0]; rintro e w' ⟨rfl, rfl⟩)
        go_ret
        exact ⟨by rw [HY.out]; rfl, HB.out⟩
      · have e0 : decide ((1 : Int) ≤ (j : Int) ∧ (j : Int) ≤ 6) = false := by simp; omega
        have HY := Lib.hid (isFmt_len (l := l) (by rw [hl.out]; exact hlen))
        clear hlen
        go_wp2_with (go_at_call 50; refine (l1R_any _ _ _ _).mono ?_; rw [e0]; rintro e w' ⟨rfl, rfl⟩)
        go_ret
        exact ⟨by rw [HY.out]; rfl, HB.out⟩
end Go.Proofs.Ytjkjnhkamieljaa
namespace Go.Proofs.Ytjkjnhkamieljaa
open Go.ChangeShapes Go.WideShapes Go.ChangeAt Go.RowKit
set_option linter.unusedVariables false

/-- Values of messages. -/
structure Vl where
  num : Int
  items : List Int
/-- From a on lie n values: the list l. -/
structure Vals (w : World) (a : Option Addr) (n : Nat) (l : List Vl) : Prop where
  len : l.length = n
  fits : (n : Int) ≤ 9223372036854775807
  cell : ∀ j x, l[j]? = some x → ∃ b o p m c, a = some ⟨b, o, none⟩ ∧ w.cell? ⟨b, o + j * 2, none⟩ = some (.int .i64 x.num) ∧ w.cell? ⟨b, o + j * 2 + 1, none⟩ = some (.slice p m c) ∧ Nums .i64 w p m x.items ∧ m ≤ c ∧ (c : Int) ≤ 9223372036854775807
theorem Vals.nothing {w : World} : Vals w none 0 [] := ⟨rfl, by omega, fun j x h => by simp at h⟩
theorem Vals.same {w w' : World} {a : Option Addr} {n : Nat} {l : List Vl} (h : Vals w a n l) (hb : Below w.heap.size w w') : Vals w' a n l :=
  ⟨h.len, h.fits, fun j x hj => by
    obtain ⟨b, o, p, m, c, e, h0, h1, h2, h3⟩ := h.cell j x hj
    exact ⟨b, o, p, m, c, e, by rw [hb.cell (cell_in h0)]; exact h0, by rw [hb.cell (cell_in h1)]; exact h1, h2.same hb, h3⟩⟩
theorem Vals.at_ {w : World} {a : Option Addr} {n : Nat} {l : List Vl} (h : Vals w a n l) {j : Nat} (hj : j < n) : ∃ b o p m c k y, a = some ⟨b, o, none⟩ ∧ l[j]? = some ⟨k, y⟩ ∧ w.cell? ⟨b, o + j * 2, none⟩ = some (.int .i64 k) ∧ w.cell? ⟨b, o + j * 2 + 1, none⟩ = some (.slice p m c) ∧ Nums .i64 w p m y ∧ m ≤ c ∧ (c : Int) ≤ 9223372036854775807 := by
  have hl : j < l.length := by rw [h.len]; exact hj
  obtain ⟨b, o, p, m, c, e, h1⟩ := h.cell j _ (List.getElem?_eq_getElem hl)
  exact ⟨b, o, p, m, c, _, _, e, List.getElem?_eq_getElem hl, h1⟩
/-- How many integers the values hold. -/
def itemsOf (l : List Vl) : Nat := (l.map fun x => x.items.length).sum
theorem itemsOf_at {l : List Vl} {j : Nat} {x : Vl} (h : l[j]? = some x) : itemsOf (l.take (j + 1)) = itemsOf (l.take j) + x.items.length := by
  unfold itemsOf
  rw [List.take_add_one, h]
  simp
theorem itemsOf_le (l : List Vl) (j : Nat) : itemsOf (l.take j) ≤ itemsOf l := by
  conv => rhs; rw [← List.take_append_drop j l]
  unfold itemsOf
  rw [List.map_append, List.sum_append]
  omega
theorem itemsOf_mem {l : List Vl} {j : Nat} {x : Vl} (h : l[j]? = some x) : x.items.length ≤ itemsOf l := by
  have h1 := itemsOf_at h
  have h2 := itemsOf_le l (j + 1)
  omega
theorem no_nums {k : IntKind} {w : World} {a : Option Addr} {l : List Int} (h : Nums k w a 0 l) : l = [] := List.eq_nil_of_length_eq_zero h.len

/-- A value as it lies in memory: its number, and where its integers lie. -/
structure Vh where
  num : Int
  p : Option Addr
  m : Nat
  c : Nat
def Vh.enc (x : Vh) : List Value := [.int .i64 x.num, .slice x.p x.m x.c]
theorem Vh.enc_len (x : Vh) : x.enc.length = 2 := rfl
theorem Vh.cells (x : Vh) : ∀ u ∈ x.enc, u.oneCell' = true := by
  intro u hu
  simp only [Vh.enc, List.mem_cons, List.not_mem_nil, or_false] at hu
  rcases hu with rfl | rfl <;> rfl
/-- The integers of the values lie in memory of the call's own, each value's apart from the others' and from the values themselves. -/
def RowsV (t : TypeId) (w : World) (B : Nat) (a : Option Addr) (hs : List Vh) (l : List Vl) : Prop :=
  hs.length = l.length ∧
  (∀ (j : Nat) (h : Vh) (x : Vl), hs[j]? = some h → l[j]? = some x → x.num = h.num ∧ Own .i64 t w B h.p h.m h.c x.items ∧ ∀ ad bd, h.p = some ad → a = some bd → ad.block ≠ bd.block) ∧
  ∀ (i j : Nat) (h k : Vh), i < j → hs[i]? = some h → hs[j]? = some k → ∀ ad bd, h.p = some ad → k.p = some bd → ad.block ≠ bd.block
/-- The list of values is the call's own, in blocks from B on. -/
def OwnV (tO tI : TypeId) (w : World) (B : Nat) (a : Option Addr) (n c : Nat) (l : List Vl) : Prop :=
  ∃ hs : List Vh, OwnI Vh.enc 2 tO w B a n c hs ∧ RowsV tI w B a hs l
section
variable {tO tI : TypeId} {w w' : World} {B n c : Nat} {a : Option Addr} {l : List Vl} {hs : List Vh}
theorem lt_of_some {α : Type} {l : List α} {j : Nat} {x : α} (h : l[j]? = some x) : j < l.length := by
  rcases Nat.lt_or_ge j l.length with q | q
  · exact q
  · rw [List.getElem?_eq_none q] at h; cases h
theorem RowsV.same (h : RowsV tI w B a hs l) (hb : Below w.heap.size w w') : RowsV tI w' B a hs l :=
  ⟨h.1, fun j g x h1 h2 => by
    obtain ⟨e, ho, hd⟩ := h.2.1 j g x h1 h2
    exact ⟨e, ho.same hb, hd⟩, h.2.2⟩
theorem OwnV.len (h : OwnV tO tI w B a n c l) : l.length = n := by
  obtain ⟨hs, h1, h2⟩ := h
  rw [← h2.1, h1.len]
theorem OwnV.room (h : OwnV tO tI w B a n c l) : n ≤ c ∧ (c : Int) ≤ 9223372036854775807 := by
  obtain ⟨hs, h1, h2⟩ := h
  exact h1.room
theorem OwnV.span (h : OwnV tO tI w B a n c l) : Span a B w.heap.size := by
  obtain ⟨hs, h1, h2⟩ := h
  exact h1.span
theorem OwnV.vals (h : OwnV tO tI w B a n c l) : Vals w a n l := by
  have hl := h.len
  have hr := h.room
  obtain ⟨hs, h1, h2⟩ := h
  refine ⟨hl, by omega, fun j x hx => ?_⟩
  have hj : j < hs.length := by rw [h2.1]; exact lt_of_some hx
  obtain ⟨b, o, g, e, hg, hc⟩ := (h1.items Vh.enc_len).at_ (j := j) (by rw [← h1.len]; exact hj)
  obtain ⟨en, ho, _⟩ := h2.2.1 j g x hg hx
  refine ⟨b, o, g.p, g.m, g.c, e, ?_, hc 1 _ rfl, ho.nums, ho.room⟩
  rw [en]
  simpa using hc 0 _ rfl
theorem OwnV.same (h : OwnV tO tI w B a n c l) (hb : Below w.heap.size w w') : OwnV tO tI w' B a n c l := by
  obtain ⟨hs, h1, h2⟩ := h
  exact ⟨hs, h1.same hb, h2.same hb⟩
theorem OwnV.lower (h : OwnV tO tI w B a n c l) {B' : Nat} (hB : B' ≤ B) : OwnV tO tI w B' a n c l := by
  obtain ⟨hs, h1, h2⟩ := h
  exact ⟨hs, h1.lower hB, h2.1, fun j g x q1 q2 => by
    obtain ⟨e, ho, hd⟩ := h2.2.1 j g x q1 q2
    exact ⟨e, ho.lower hB, hd⟩, h2.2.2⟩
theorem OwnV.nil : OwnV tO tI w B none 0 0 [] := ⟨[], OwnI.nil, rfl, fun j g x h => by simp at h, fun i j h k _ h' => by simp at h'⟩
/-- A write to the outer row alone leaves what the integers are. -/
theorem Own.beside {k : IntKind} {t : TypeId} {p b : Option Addr} {m d n c : Nat} {y : List Int} (h : Own k t w B p m d y) (hg : w.grownBy w' (Value.ownBlock (.slice b n c))) (hd : ∀ ad bd, p = some ad → b = some bd → ad.block ≠ bd.block) : Own k t w' B p m d y := by
  cases p with
  | none => exact ⟨h.1, h.2.kept hg (Or.inl rfl)⟩
  | some ad =>
    refine ⟨h.1, h.2.kept hg (Or.inr ?_)⟩
    cases b with
    | none => simp [Value.ownBlock]
    | some be =>
      have := hd ad be rfl rfl
      simpa [Value.ownBlock] using this
theorem RowsV.beside (h : RowsV tI w B a hs l) (hg : w.grownBy w' (Value.ownBlock (.slice a n c))) : ∀ (j : Nat) (g : Vh) (x : Vl), hs[j]? = some g → l[j]? = some x → x.num = g.num ∧ Own .i64 tI w' B g.p g.m g.c x.items := fun j g x h1 h2 => by
  obtain ⟨e, ho, hd⟩ := h.2.1 j g x h1 h2
  exact ⟨e, ho.beside hg hd⟩
/-- What a row owns, two cells later. -/
theorem stored2 {t : TypeId} {s g cap : Nat} {xs : List Value} (h : w.ownsRow B t s (.slice (some ⟨g, 0, none⟩) n cap) n xs) (j0 j1 : Nat) (v0 v1 : Value) :
    ((w.setCell ⟨g, j0, none⟩ v0).setCell ⟨g, j1, none⟩ v1).ownsRow B t s (.slice (some ⟨g, 0, none⟩) n cap) n ((xs.set j0 v0).set j1 v1) ∧
    w.grownBy ((w.setCell ⟨g, j0, none⟩ v0).setCell ⟨g, j1, none⟩ v1) (some g) := by
  have h0 := h.stored j0 v0
  have h1 := h0.1.stored j1 v1
  exact ⟨h1.1, h0.2.trans h1.2⟩
theorem flatVh_put : ∀ (hs : List Vh) (i : Nat) (g : Vh), i < hs.length → ((flatOf Vh.enc hs).set (i * 2) (.int .i64 g.num)).set (i * 2 + 1) (.slice g.p g.m g.c) = flatOf Vh.enc (hs.set i g)
  | [], i, g, h => by simp at h
  | y :: t, 0, g, h => by
    have e : flatOf Vh.enc (y :: t) = .int .i64 y.num :: .slice y.p y.m y.c :: flatOf Vh.enc t := by simp [flatOf, Vh.enc]
    rw [e]
    simp [flatOf, Vh.enc]
  | y :: t, i + 1, g, h => by
    have ih := flatVh_put t i g (by simpa using h)
    have e : flatOf Vh.enc (y :: t) = .int .i64 y.num :: .slice y.p y.m y.c :: flatOf Vh.enc t := by simp [flatOf, Vh.enc]
    rw [e, show (i + 1) * 2 = i * 2 + 1 + 1 by omega, List.set_cons_succ, List.set_cons_succ, List.set_cons_succ, List.set_cons_succ, ih, List.set_cons_succ]
    simp [flatOf, Vh.enc]
/-- The integers of a value lie in blocks that are there. -/
theorem RowsV.lt (h : RowsV tI w B a hs l) {j : Nat} {k : Vh} (hk : hs[j]? = some k) {ad : Addr} (e : k.p = some ad) : B ≤ ad.block ∧ ad.block < w.heap.size := by
  have hj : j < l.length := by rw [← h.1]; exact lt_of_some hk
  obtain ⟨_, ho, _⟩ := h.2.1 j k _ hk (List.getElem?_eq_getElem hj)
  exact ho.span ad e
/-- A value whose integers lie in memory that is newer than the list is put at place i. -/
theorem OwnV.put {u : World} {g : Nat} (h : OwnV tO tI u B (some ⟨g, 0, none⟩) n c l) (hb : Below u.heap.size u w) {i : Nat} (hi : i < n) (k : Int) (p : Option Addr) (m d : Nat) (y : List Int) (hv : Own .i64 tI w B p m d y)
    (hf : ∀ ad, p = some ad → u.heap.size ≤ ad.block) :
    OwnV tO tI ((w.setCell ⟨g, i * 2, none⟩ (.int .i64 k)).setCell ⟨g, i * 2 + 1, none⟩ (.slice p m d)) B (some ⟨g, 0, none⟩) n c (l.set i ⟨k, y⟩) ∧ w.grownBy ((w.setCell ⟨g, i * 2, none⟩ (.int .i64 k)).setCell ⟨g, i * 2 + 1, none⟩ (.slice p m d)) (some g) := by
  have hl := h.len
  have hgs := h.span _ rfl
  dsimp only at hgs
  obtain ⟨hs, h1, h2⟩ := h
  have hlt := fun (j : Nat) (k : Vh) (ad : Addr) (hk : hs[j]? = some k) (e : k.p = some ad) => (h2.lt hk e).2
  have h1' := h1.same hb
  have h2' := h2.same hb
  have h3 := stored2 h1'.2 (i * 2) (i * 2 + 1) (.int .i64 k) (.slice p m d)
  have hih : i < hs.length := by rw [h1.len]; exact hi
  rw [flatVh_put hs i ⟨k, p, m, d⟩ hih] at h3
  refine ⟨⟨hs.set i ⟨k, p, m, d⟩, ⟨by rw [List.length_set]; exact h1.len, h3.1⟩, by rw [List.length_set, List.length_set]; exact h2.1, fun j v x hk hx => ?_, fun j j' v v' hjj hk hk' ad bd ha hb' => ?_⟩, h3.2⟩
  · by_cases e : j = i
    · subst e
      rw [List.getElem?_set_self hih] at hk
      rw [List.getElem?_set_self (by rw [hl]; exact hi)] at hx
      cases hk
      cases hx
      refine ⟨rfl, Own.beside (b := some ⟨g, 0, none⟩) (n := n) (c := c) hv h3.2 fun ad bd ha hb' => ?_, fun ad bd ha hb' => ?_⟩
      · cases hb'
        have := hf ad ha
        dsimp only
        omega
      · cases hb'
        have := hf ad ha
        dsimp only
        omega
    · rw [List.getElem?_set_ne (by omega)] at hk hx
      obtain ⟨e1, ho, hd1⟩ := h2'.2.1 j v x hk hx
      exact ⟨e1, Own.beside (b := some ⟨g, 0, none⟩) (n := n) (c := c) ho h3.2 hd1, hd1⟩
  · by_cases e : j = i
    · subst e
      rw [List.getElem?_set_self hih] at hk
      rw [List.getElem?_set_ne (by omega)] at hk'
      cases hk
      have := hlt j' v' bd hk' hb'
      have := hf ad ha
      omega
    · rw [List.getElem?_set_ne (by omega)] at hk
      by_cases e' : j' = i
      · subst e'
        rw [List.getElem?_set_self hih] at hk'
        cases hk'
        have := hlt j v ad hk ha
        have := hf bd hb'
        omega
      · rw [List.getElem?_set_ne (by omega)] at hk'
        exact h2'.2.2 j j' v v' hjj hk hk' ad bd ha hb'
/-- Values that are all empty. -/
theorem OwnV.zeros (h : w.ownsRow B tO 2 (.slice a n c) n (flatOf Vh.enc (List.replicate n ⟨0, none, 0, 0⟩))) : OwnV tO tI w B a n c (List.replicate n ⟨0, []⟩) := by
  refine ⟨List.replicate n ⟨0, none, 0, 0⟩, ⟨by simp, h⟩, by simp, fun j v x hk hx => ?_, fun i j v v' _ hk _ ad bd ha _ => ?_⟩
  · have e1 := List.mem_replicate.1 (List.mem_of_getElem? hk)
    have e2 := List.mem_replicate.1 (List.mem_of_getElem? hx)
    rw [e1.2, e2.2]
    exact ⟨rfl, Own.nil, fun ad bd ha => by cases ha⟩
  · have e1 := List.mem_replicate.1 (List.mem_of_getElem? hk)
    rw [e1.2] at ha
    cases ha
theorem made2 (n : Nat) : (madeCells (Value.agg #[.int .i64 0, .slice none 0 0]).cells (n * 2)).toList = flatOf Vh.enc (List.replicate n ⟨0, none, 0, 0⟩) := by
  apply List.ext_getElem?
  intro i
  by_cases hi : i < n * 2
  · have hlt : i / 2 < n := Nat.div_lt_of_lt_mul (by omega)
    have h2 := flatOf_at Vh.enc_len (List.replicate n ⟨0, none, 0, 0⟩) (i / 2) ⟨0, none, 0, 0⟩ (i % 2) (by simp [hlt]) (Nat.mod_lt _ (by omega))
    rw [show i / 2 * 2 + i % 2 = i by omega] at h2
    rw [h2]
    have h3 : i % 2 < 2 := Nat.mod_lt _ (by omega)
    have h4 : (madeCells (Value.agg #[.int .i64 0, .slice none 0 0]).cells (n * 2)).toList[i]? = some ((#[.int .i64 0, .slice none 0 0] : Array Value)[i % 2]!) := by
      simp [madeCells, Value.cells, hi]
    rw [h4]
    match i % 2, h3 with
    | 0, _ => rfl
    | 1, _ => rfl
  · rw [List.getElem?_eq_none (by simp [madeCells]; omega), List.getElem?_eq_none (by rw [flatOf_len Vh.enc_len]; simp; omega)]
end
/-- One cell of another block is written. -/
theorem set_grown (w : World) (b o : Nat) (v : Value) : w.grownBy (w.setCell ⟨b, o, none⟩ v) (some b) :=
  ⟨rfl, rfl, rfl, ((Below.refl 0 w).setCell (Nat.zero_le _) v).size, fun i hi hne => Below.heap_setCell _ _ _ _ (fun e => hne (by rw [e]))⟩
theorem Own.set {k : IntKind} {t : TypeId} {w : World} {B n c b : Nat} {a : Option Addr} {l : List Int} (h : Own k t w B a n c l) (hd : ∀ ad, a = some ad → ad.block ≠ b) (o : Nat) (v : Value) : Own k t (w.setCell ⟨b, o, none⟩ v) B a n c l := by
  cases a with
  | none => exact ⟨h.1, h.2.kept (set_grown w b o v) (Or.inl rfl)⟩
  | some ad =>
    refine ⟨h.1, h.2.kept (set_grown w b o v) (Or.inr ?_)⟩
    have := hd ad rfl
    simpa [Value.ownBlock] using this
/-- What a function leaves that makes a list of values. -/
def MadeV (tO tI : TypeId) (B : Nat) (l : List Vl) (w : World) (e : Ending) (w' : World) : Prop :=
  ∃ a n c, e = .returned (.slice a n c) ∧ OwnV tO tI w' B a n c l ∧ Below B w w'
end Go.Proofs.Ytjkjnhkamieljaa
namespace Go.Proofs.Ytjkjnhkamieljaa
open Go.ChangeShapes Go.WideShapes Go.ChangeAt Go.RowKit
set_option linter.unusedVariables false

/-- Whether there is a field i, and its condition is met. -/
def isThere (l : List Fd) (v : List Vl) (i : Int) : Bool :=
  if 0 ≤ i ∧ i ≤ (l.length : Int) - 1 then
    match l[i.toNat]? with
    | some x => if x.cond = -1 then true else decide (0 ≤ x.cond ∧ x.cond ≤ (v.length : Int) - 1) && (match v[x.cond.toNat]? with
      | some y => decide (y.num = x.is)
      | none => false)
    | none => false
  else false
theorem isThere_out {l : List Fd} {v : List Vl} {i : Int} (h : ¬ (0 ≤ i ∧ i ≤ (l.length : Int) - 1)) : isThere l v i = false := if_neg h
theorem isThere_in {l : List Fd} {v : List Vl} {k : Nat} {x : Fd} (h : l[k]? = some x) : isThere l v k = (if x.cond = -1 then true else decide (0 ≤ x.cond ∧ x.cond ≤ (v.length : Int) - 1) && (match v[x.cond.toNat]? with
      | some y => decide (y.num = x.is)
      | none => false)) := by
  have hk := lt_of_some h
  unfold isThere
  rw [if_pos ⟨by omega, by omega⟩, Int.toNat_natCast, h]
theorem isThere_always {l : List Fd} {v : List Vl} {k : Nat} {x : Fd} (h : l[k]? = some x) (hc : x.cond = -1) : isThere l v k = true := by rw [isThere_in h, if_pos hc]
theorem isThere_far {l : List Fd} {v : List Vl} {k : Nat} {x : Fd} (h : l[k]? = some x) (hc : x.cond ≠ -1) (hd : ¬ (0 ≤ x.cond ∧ x.cond ≤ (v.length : Int) - 1)) : isThere l v k = false := by rw [isThere_in h, if_neg hc, decide_eq_false hd]; rfl
theorem isThere_when {l : List Fd} {v : List Vl} {k q : Nat} {x : Fd} {y : Vl} (h : l[k]? = some x) (hc : x.cond = q) (hy : v[q]? = some y) : isThere l v k = (y.num == x.is) := by
  have hq := lt_of_some hy
  rw [isThere_in h, if_neg (by omega), decide_eq_true (by omega), hc, Int.toNat_natCast, hy]
  simp only [Bool.true_and]
  by_cases e : y.num = x.is <;> simp [e]
theorem inR_t {n l h : Int} {x : Bool} (e : decide (l ≤ n ∧ n ≤ h) = x) (w : World) :
    Calls Try.prog 33 #[.int .i64 n, .int .i64 l, .int .i64 h] w fun e w' => e = .returned (.bool x) ∧ w' = w := (inR_any n l h w).mono fun e' w' ⟨h1, h2⟩ => ⟨by rw [h1, e], h2.symm⟩
theorem eqb_dec (x y : Int) : (x == y) = decide (x = y) := by by_cases h : x = y <;> simp [h]

set_option maxHeartbeats 1000000 in
set_option maxRecDepth 100000 in
theorem isThere_any (a : Option Addr) (n c : Nat) (l : List Fd) (b : Option Addr) (m d : Nat) (v : List Vl) (i : Int) (w : World) (h : Fds w a n l) (hv : Vals w b m v) (hn : n ≤ 1000000000) (hm : m ≤ 1000000000) :
    Calls Try.prog 43 #[.slice a n c, .slice b m d, .int .i64 i] w (Told (.bool (isThere l v i)) w) := by
  have H := Lib.hid h
  have HV := Lib.hid hv
  have hl := h.len
  have hvl := hv.len
  clear h hv
  by_cases h1 : 0 ≤ i ∧ i ≤ (n : Int) - 1
  · obtain ⟨k, rfl⟩ : ∃ k : Nat, i = k := ⟨i.toNat, by omega⟩
    have hkn : k < n := by omega
    have e1 : decide ((0 : Int) ≤ (k : Int) ∧ (k : Int) ≤ (n : Int) - 1) = true := decide_eq_true h1
    clear h1
    obtain ⟨bb, o, ⟨xk, xm, xt, xi⟩, rfl, hx, hc0, hc1, hc2, hc3⟩ := fds_at H.out hkn
    dsimp only at hc0 hc1 hc2 hc3
    have HB : Hid (Below w.heap.size w (w.alloc (.cells #[.int .i64 xk, .int .i64 xm, .int .i64 xt, .int .i64 xi] 50))) := Lib.hid (alloc_same w _)
    by_cases h2 : xt = -1
    · have e2 : (xt == -1) = true := by simpa using h2
      rw [isThere_always hx h2]
      clear hx h2
      go_enter Try.func43, Try.ntmps43
      go_wp2_with (go_at_call 33; refine (inR_any _ _ _ _).mono ?_; rw [e1]; rintro e w' ⟨rfl, rfl⟩)
      go_ret
      exact ⟨rfl, HB.out⟩
    · have e2 : (xt == -1) = false := by simpa using h2
      by_cases h3 : 0 ≤ xt ∧ xt ≤ (m : Int) - 1
      · have e3 : decide ((0 : Int) ≤ xt ∧ xt ≤ (m : Int) - 1) = true := decide_eq_true h3
        obtain ⟨q, rfl⟩ : ∃ q : Nat, xt = q := ⟨xt.toNat, by omega⟩
        have hqm : q < m := by omega
        clear h2 h3
        obtain ⟨b2, o2, p2, m2, d2, yk, yl, rfl, hy, hd0, hd1, hN, hr⟩ := HV.out.at_ hqm
        rw [isThere_when hx rfl hy]
        have ha0 : ∀ ob, (w.alloc ob).cell? ⟨b2, o2 + q * 2, none⟩ = some (.int .i64 yk) := fun ob => by rw [(alloc_same w ob).cell (cell_in hd0)]; exact hd0
        clear hx hy hN hd0 hd1
        go_enter Try.func43, Try.ntmps43
        go_wp2_with (go_at_call 33; refine (inR_any _ _ _ _).mono ?_; (first | rw [e1] | rw [e3]); rintro e w' ⟨rfl, rfl⟩)
        go_quiet ((go_at_call 33; exact Calls.quiet_of_same (inR_t e3 _)))
        go_wp2_with fail
        go_ret
        exact ⟨rfl, HB.out.trans ((drewN_same _ _).mono HB.out.size)⟩
      · have e3 : decide ((0 : Int) ≤ xt ∧ xt ≤ (m : Int) - 1) = false := decide_eq_false h3
        rw [isThere_far hx h2 (by rw [hvl]; exact h3)]
        clear hx h2 h3
        go_enter Try.func43, Try.ntmps43
        go_wp2_with (go_at_call 33; refine (inR_any _ _ _ _).mono ?_; (first | rw [e1] | rw [e3]); rintro e w' ⟨rfl, rfl⟩)
        go_quiet ((go_at_call 33; exact Calls.quiet_of_same (inR_t e3 _)))
        go_wp2_with fail
        go_ret
        exact ⟨rfl, HB.out.trans ((drewN_same _ _).mono HB.out.size)⟩
  · have e1 : decide ((0 : Int) ≤ i ∧ i ≤ (n : Int) - 1) = false := decide_eq_false h1
    rw [isThere_out (by rw [hl]; exact h1)]
    clear h1
    go_enter Try.func43, Try.ntmps43
    go_wp2_with (go_at_call 33; refine (inR_any _ _ _ _).mono ?_; rw [e1]; rintro e w' ⟨rfl, rfl⟩)
    go_ret
    exact ⟨rfl, Below.refl _ _⟩
end Go.Proofs.Ytjkjnhkamieljaa
namespace Go.Proofs.Ytjkjnhkamieljaa
open Go.ChangeShapes Go.WideShapes Go.ChangeAt Go.RowKit
set_option linter.unusedVariables false

/-- All integers lie between 0 and g. -/
def allIn (y : List Int) (g : Int) : Bool := y.all fun z => decide (0 ≤ z ∧ z ≤ g)
def fitIts (y : List Int) (most g : Int) : Bool := decide ((y.length : Int) ≤ most) && allIn y g
def fitsField (x : Fd) (k : Int) (y : List Int) : Bool :=
  if x.kind = 1 then decide (0 ≤ k ∧ k ≤ x.max) && decide (y.length = 0)
  else if x.kind = 2 then decide (k = 0) && fitIts y x.max 255
  else if x.kind = 3 then decide (k = 0) && fitIts y x.max 99
  else false
theorem allIn_zero (y : List Int) (g : Int) : allIn (y.take 0) g = true := by simp [allIn]
theorem allIn_step {y : List Int} {j : Nat} {z g : Int} (h : allIn (y.take j) g = true) (hz : y[j]? = some z) (hi : 0 ≤ z ∧ z ≤ g) : allIn (y.take (j + 1)) g = true := by
  unfold allIn at *
  rw [List.take_add_one, hz, Option.toList_some, List.all_append, h]
  simpa using hi
theorem allIn_no {y : List Int} {j : Nat} {z g : Int} (hz : y[j]? = some z) (hi : ¬ (0 ≤ z ∧ z ≤ g)) : allIn y g = false := by
  unfold allIn
  rw [List.all_eq_false]
  exact ⟨z, List.mem_of_getElem? hz, by simpa using hi⟩
set_option maxRecDepth 100000 in
theorem fitItems_any (p : Option Addr) (m c : Nat) (y : List Int) (most g : Int) (w : World) (h : Nums .i64 w p m y) :
    Calls Try.prog 94 #[.slice p m c, .int .i64 most, .int .i64 g] w fun e w' => e = .returned (.bool (fitIts y most g)) ∧ w = w' := by
  have H := Lib.hid h
  have hl := h.len
  have hfit := h.fits
  clear h
  by_cases h1 : (m : Int) ≤ most
  · have e1 : fitIts y most g = allIn y g := by unfold fitIts; rw [hl, decide_eq_true h1]; rfl
    rw [e1]
    clear e1
    go_enter Try.func94, Try.ntmps94
    go_wp2_with fail
    go_loop [15] (fun i => ∃ j : Nat, j ≤ m ∧ i = .int .i64 j ∧ allIn (y.take j) g = true) (fun i => m - (intOf i).toNat)
    case atStart => exact ⟨0, Nat.zero_le _, rfl, allIn_zero _ _⟩
    case round =>
      obtain ⟨j, hj, rfl, hall⟩ := hrel
      have HA := Lib.hid hall
      clear hall
      by_cases hlt : j < m
      · obtain ⟨ad, z, rfl, hz, hc⟩ := H.out.at_ hlt
        by_cases hi : 0 ≤ z ∧ z ≤ g
        · have HS := Lib.hid (allIn_step HA.out hz hi)
          have K := Lib.hid (fun w0 => inR_t (decide_eq_true hi) w0)
          clear hz hi
          go_wp2_with (go_at_call 33; refine (K.out _).mono ?_; rintro e w' ⟨rfl, rfl⟩)
          go_round
          case rel => exact ⟨j + 1, by omega, by go_num, HS.out⟩
          case measure => simp [intOf]; omega
        · have HE := Lib.hid (allIn_no hz hi)
          have K := Lib.hid (fun w0 => inR_t (decide_eq_false hi) w0)
          clear hz hi
          go_wp2_with (go_at_call 33; refine (K.out _).mono ?_; rintro e w' ⟨rfl, rfl⟩)
          go_ret
          exact ⟨by rw [HE.out]; rfl, rfl⟩
      · obtain rfl : j = m := by omega
        have h2 := HA.out
        rw [List.take_of_length_le (by omega)] at h2
        have HE := Lib.hid h2
        clear h2
        go_wp2_with fail
        go_ret
        exact ⟨by rw [HE.out]; rfl, rfl⟩
  · have e1 : fitIts y most g = false := by unfold fitIts; rw [hl, decide_eq_false h1]; rfl
    rw [e1]
    clear e1
    go_enter Try.func94, Try.ntmps94
    go_wp2_with fail
    go_ret
    exact ⟨rfl, rfl⟩
theorem typeOf_t {k : Int} {v : Value} (e : typeVal k = v) (w : World) : Calls Try.prog 34 #[.int .i64 k] w fun e w' => e = .returned v ∧ w = w' := (typeOf_any k w).mono fun e' w' ⟨h1, h2⟩ => ⟨by rw [h1, e], h2⟩
theorem typeVal_no {k : Int} (h1 : k ≠ 1) (h2 : k ≠ 2) (h3 : k ≠ 3) : typeVal k = .iface 82 (.agg #[]) := by simp [typeVal, h1, h2, h3]

theorem is_num_num (w : World) : (Instr.typeAssert (.iface 79 (.agg #[])) 52 79 true).run Try.prog w = .ok (.tuple #[.agg #[], .bool true]) w := by kernel_rfl
theorem is_text_num (w : World) : (Instr.typeAssert (.iface 80 (.agg #[])) 52 79 true).run Try.prog w = .ok (.tuple #[.agg #[], .bool false]) w := by kernel_rfl
theorem is_list_num (w : World) : (Instr.typeAssert (.iface 81 (.agg #[])) 52 79 true).run Try.prog w = .ok (.tuple #[.agg #[], .bool false]) w := by kernel_rfl
theorem is_no_num (w : World) : (Instr.typeAssert (.iface 82 (.agg #[])) 52 79 true).run Try.prog w = .ok (.tuple #[.agg #[], .bool false]) w := by kernel_rfl
theorem is_num_text (w : World) : (Instr.typeAssert (.iface 79 (.agg #[])) 52 80 true).run Try.prog w = .ok (.tuple #[.agg #[], .bool false]) w := by kernel_rfl
theorem is_text_text (w : World) : (Instr.typeAssert (.iface 80 (.agg #[])) 52 80 true).run Try.prog w = .ok (.tuple #[.agg #[], .bool true]) w := by kernel_rfl
theorem is_list_text (w : World) : (Instr.typeAssert (.iface 81 (.agg #[])) 52 80 true).run Try.prog w = .ok (.tuple #[.agg #[], .bool false]) w := by kernel_rfl
theorem is_no_text (w : World) : (Instr.typeAssert (.iface 82 (.agg #[])) 52 80 true).run Try.prog w = .ok (.tuple #[.agg #[], .bool false]) w := by kernel_rfl
theorem is_num_list (w : World) : (Instr.typeAssert (.iface 79 (.agg #[])) 52 81 true).run Try.prog w = .ok (.tuple #[.agg #[], .bool false]) w := by kernel_rfl
theorem is_text_list (w : World) : (Instr.typeAssert (.iface 80 (.agg #[])) 52 81 true).run Try.prog w = .ok (.tuple #[.agg #[], .bool false]) w := by kernel_rfl
theorem is_list_list (w : World) : (Instr.typeAssert (.iface 81 (.agg #[])) 52 81 true).run Try.prog w = .ok (.tuple #[.agg #[], .bool true]) w := by kernel_rfl
theorem is_no_list (w : World) : (Instr.typeAssert (.iface 82 (.agg #[])) 52 81 true).run Try.prog w = .ok (.tuple #[.agg #[], .bool false]) w := by kernel_rfl
set_option maxHeartbeats 2000000 in
set_option maxRecDepth 100000 in
theorem fitsField_any (x : Fd) (k : Int) (p : Option Addr) (m c : Nat) (y : List Int) (w : World) (h : Nums .i64 w p m y) :
    Calls Try.prog 79 #[x.val, .agg #[.int .i64 k, .slice p m c]] w (Told (.bool (fitsField x k y)) w) := by
  obtain ⟨xk, xm, xt, xi⟩ := x
  unfold Fd.val
  have hl := h.len
  have KI := Lib.hid (fun (most g : Int) (w0 : World) (hb : Below w.heap.size w w0) => fitItems_any p m c y most g w0 (h.same hb))
  have HB : Hid (Below w.heap.size w ((w.alloc (.cells #[.int .i64 xk, .int .i64 xm, .int .i64 xt, .int .i64 xi] 50)).alloc (.cells #[.int .i64 k, .slice p m c] 64))) := Lib.hid (((Below.refl _ w).alloc (Nat.le_refl _) _).alloc (by simp) _)
  clear h
  by_cases h1 : xk = 1
  · have KT := Lib.hid (fun w0 => typeOf_t (k := xk) (v := .iface 79 (.agg #[])) (by rw [h1]; rfl) w0)
    have Anum := is_num_num
    have ef : fitsField ⟨xk, xm, xt, xi⟩ k y = (decide (0 ≤ k ∧ k ≤ xm) && decide (y.length = 0)) := by unfold fitsField; dsimp only; rw [if_pos h1]
    rw [ef]
    clear ef h1
    by_cases h2 : 0 ≤ k ∧ k ≤ xm
    · have KR := Lib.hid (fun w0 => inR_t (decide_eq_true h2) w0)
      rw [decide_eq_true h2]
      clear h2
      go_enter Try.func79, Try.ntmps79
      go_wp2_with (first | (go_at_call 34; refine (KT.out _).mono ?_; rintro e w' ⟨rfl, rfl⟩) | (go_at_call 33; refine (KR.out _).mono ?_; rintro e w' ⟨rfl, rfl⟩))
      go_ret
      exact ⟨by rw [hl]; by_cases e : m = 0 <;> simp [e], HB.out⟩
    · have KR := Lib.hid (fun w0 => inR_t (decide_eq_false h2) w0)
      rw [decide_eq_false h2]
      clear h2
      go_enter Try.func79, Try.ntmps79
      go_wp2_with (first | (go_at_call 34; refine (KT.out _).mono ?_; rintro e w' ⟨rfl, rfl⟩) | (go_at_call 33; refine (KR.out _).mono ?_; rintro e w' ⟨rfl, rfl⟩))
      go_ret
      exact ⟨rfl, HB.out⟩
  · by_cases h2 : xk = 2
    · have KT := Lib.hid (fun w0 => typeOf_t (k := xk) (v := .iface 80 (.agg #[])) (by rw [h2]; rfl) w0)
      have Anum := is_text_num
      have Atext := is_text_text
      have ef : fitsField ⟨xk, xm, xt, xi⟩ k y = (decide (k = 0) && fitIts y xm 255) := by unfold fitsField; dsimp only; rw [if_neg h1, if_pos h2]
      rw [ef]
      clear ef h1 h2
      by_cases h3 : k = 0
      · have b3 : (k == 0) = true := by simpa using h3
        rw [decide_eq_true h3]
        clear h3
        go_enter Try.func79, Try.ntmps79
        go_wp2_with (first | (go_at_call 34; refine (KT.out _).mono ?_; rintro e w' ⟨rfl, rfl⟩) | (go_at_call 94; refine (KI.out _ _ _ HB.out).mono ?_; rintro e w' ⟨rfl, rfl⟩))
        go_ret
        exact ⟨by simp, HB.out⟩
      · have b3 : (k == 0) = false := by simpa using h3
        rw [decide_eq_false h3]
        clear h3
        go_enter Try.func79, Try.ntmps79
        go_wp2_with (first | (go_at_call 34; refine (KT.out _).mono ?_; rintro e w' ⟨rfl, rfl⟩) | (go_at_call 94; refine (KI.out _ _ _ HB.out).mono ?_; rintro e w' ⟨rfl, rfl⟩))
        go_ret
        exact ⟨rfl, HB.out⟩
    · by_cases h2' : xk = 3
      · have KT := Lib.hid (fun w0 => typeOf_t (k := xk) (v := .iface 81 (.agg #[])) (by rw [h2']; rfl) w0)
        have Anum := is_list_num
        have Atext := is_list_text
        have Alist := is_list_list
        have ef : fitsField ⟨xk, xm, xt, xi⟩ k y = (decide (k = 0) && fitIts y xm 99) := by unfold fitsField; dsimp only; rw [if_neg h1, if_neg h2, if_pos h2']
        rw [ef]
        clear ef h1 h2 h2'
        by_cases h3 : k = 0
        · have b3 : (k == 0) = true := by simpa using h3
          rw [decide_eq_true h3]
          clear h3
          go_enter Try.func79, Try.ntmps79
          go_wp2_with (first | (go_at_call 34; refine (KT.out _).mono ?_; rintro e w' ⟨rfl, rfl⟩) | (go_at_call 94; refine (KI.out _ _ _ HB.out).mono ?_; rintro e w' ⟨rfl, rfl⟩))
          go_ret
          exact ⟨by simp, HB.out⟩
        · have b3 : (k == 0) = false := by simpa using h3
          rw [decide_eq_false h3]
          clear h3
          go_enter Try.func79, Try.ntmps79
          go_wp2_with (first | (go_at_call 34; refine (KT.out _).mono ?_; rintro e w' ⟨rfl, rfl⟩) | (go_at_call 94; refine (KI.out _ _ _ HB.out).mono ?_; rintro e w' ⟨rfl, rfl⟩))
          go_ret
          exact ⟨rfl, HB.out⟩
      · have KT := Lib.hid (fun w0 => typeOf_t (k := xk) (typeVal_no h1 h2 h2') w0)
        have Anum := is_no_num
        have Atext := is_no_text
        have Alist := is_no_list
        have ef : fitsField ⟨xk, xm, xt, xi⟩ k y = false := by unfold fitsField; dsimp only; rw [if_neg h1, if_neg h2, if_neg h2']
        rw [ef]
        clear ef h1 h2 h2'
        go_enter Try.func79, Try.ntmps79
        go_wp2_with (go_at_call 34; refine (KT.out _).mono ?_; rintro e w' ⟨rfl, rfl⟩)
        go_ret
        exact ⟨rfl, HB.out⟩
end Go.Proofs.Ytjkjnhkamieljaa
namespace Go.Proofs.Ytjkjnhkamieljaa
open Go.ChangeShapes Go.WideShapes Go.ChangeAt Go.RowKit
set_option linter.unusedVariables false

set_option maxRecDepth 100000 in
theorem slicesEqual_yes {a b : Option Addr} {n m c d : Nat} {l : List Int} {w : World} (h : Nums .i64 w a n l) (h' : Nums .i64 w b m l) :
    Calls Try.prog 65 #[.slice a n c, .slice b m d] w (Told (.bool true) w) := by
  obtain rfl : n = m := by rw [← h.len, ← h'.len]
  have hn := h.fits
  have H := Lib.hid h
  have H' := Lib.hid h'
  clear h h'
  go_enter Try.func65, Try.ntmps65
  go_wp2
  go_loopw [13] (fun i wr => ∃ j : Nat, j ≤ n ∧ i = .int .i64 j ∧ Below w.heap.size w wr) (fun i _ => n - (intOf i).toNat)
  case atStart => exact ⟨0, Nat.zero_le _, rfl, Below.refl _ _⟩
  case round =>
    obtain ⟨j, hj, rfl, hb⟩ := hrel
    have HB := Lib.hid hb
    clear hb
    by_cases hlt : j < n
    · obtain ⟨ad, x, rfl, hx, hc⟩ := (H.out.same HB.out).at_ hlt
      obtain ⟨be, y, rfl, hy, hc'⟩ := (H'.out.same HB.out).at_ hlt
      rw [hx] at hy
      cases hy
      clear hx
      go_wp2
      go_quiet (fail)
      go_wp2
      go_roundw
      case rel => exact ⟨j + 1, by omega, by go_num, HB.out.trans ((drewN_same _ _).mono HB.out.size)⟩
      case measure => simp [intOf]; omega
    · go_wp2
      go_ret
      exact ⟨rfl, HB.out⟩
set_option maxRecDepth 100000 in
theorem slicesEqual_no {a b : Option Addr} {n m c d : Nat} {l l' : List Int} {w : World} (h : Nums .i64 w a n l) (h' : Nums .i64 w b m l') (hne : l ≠ l') :
    Calls Try.prog 65 #[.slice a n c, .slice b m d] w (Told (.bool false) w) := by
  have hn := h.fits
  have hm := h'.fits
  have H := Lib.hid h
  have H' := Lib.hid h'
  have HE := Lib.hid hne
  clear h h' hne
  by_cases hnm : n = m
  · subst hnm
    go_enter Try.func65, Try.ntmps65
    go_wp2
    go_loopw [13] (fun i wr => ∃ j : Nat, j ≤ n ∧ i = .int .i64 j ∧ l.take j = l'.take j ∧ Below w.heap.size w wr) (fun i _ => n - (intOf i).toNat)
    case atStart => exact ⟨0, Nat.zero_le _, rfl, rfl, Below.refl _ _⟩
    case round =>
      obtain ⟨j, hj, rfl, ht, hb⟩ := hrel
      have HB := Lib.hid hb
      have HT := Lib.hid ht
      clear hb ht
      by_cases hlt : j < n
      · obtain ⟨ad, x, rfl, hx, hc⟩ := (H.out.same HB.out).at_ hlt
        obtain ⟨be, y, rfl, hy, hc'⟩ := (H'.out.same HB.out).at_ hlt
        have HX := Lib.hid hx
        have HY := Lib.hid hy
        clear hx hy
        by_cases hxy : x = y
        · subst hxy
          go_wp2
          go_quiet (fail)
          go_wp2
          go_roundw
          case rel => exact ⟨j + 1, by omega, by go_num, by rw [List.take_add_one, List.take_add_one, HX.out, HY.out, HT.out], HB.out.trans ((drewN_same _ _).mono HB.out.size)⟩
          case measure => simp [intOf]; omega
        · have hq : (x != y) = true := by simp [hxy]
          clear hxy
          go_wp2
          go_quiet (fail)
          go_wp2
          go_ret
          exact ⟨rfl, HB.out.trans ((drewN_same _ _).mono HB.out.size)⟩
      · exfalso
        have h1 := HT.out
        rw [List.take_of_length_le (by rw [H.out.len]; omega), List.take_of_length_le (by rw [H'.out.len]; omega)] at h1
        exact HE.out h1
  · have hq : ((n : Int) != (m : Int)) = true := by simp; omega
    clear hnm
    go_enter Try.func65, Try.ntmps65
    go_wp2
    go_ret
    exact ⟨rfl, Below.refl _ _⟩
end Go.Proofs.Ytjkjnhkamieljaa
