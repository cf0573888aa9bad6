/- Being a format, by the model. -/
import Derived.Test.YtjmabidahofbbaaIsF2
namespace Go.Proofs.Ytjmabidahofbbaa
open Go.ChangeShapes Go.WideShapes Go.ChangeAt Go.RowKit
set_option linter.unusedVariables false

theorem l1R_q (n l h : Int) (w : World) :
    Calls Try.prog 58 #[.int .i64 n, .int .i64 l, .int .i64 h] w fun e w' => e = .returned (.bool (decide (l ≤ n ∧ n ≤ h))) ∧ w' = w := (l1R_any n l h w).mono fun e w' ⟨h1, h2⟩ => ⟨h1, h2.symm⟩

set_option maxHeartbeats 8000000 in
set_option maxRecDepth 100000 in
theorem specIsFormat_any (a : Option Addr) (n c : Nat) (l : List Fd) (w : World) (h : Fds w a n l) (hn : n ≤ 1000000000) :
    Calls Try.prog 15 #[.slice a n c] w (Told (.bool (isFmt l)) w) := by
  have H := Lib.hid h
  have hl := Lib.hid h.len
  clear h
  go_enter Try.func15, Try.ntmps15
  go_wp2_with fail
  go_loopw [3] (fun i wr => ∃ j : Nat, j ≤ n ∧ i = .int .i64 j ∧ okTo l j ∧ Below w.heap.size w wr) (fun i _ => n - (intOf i).toNat)
  case atStart => exact ⟨0, Nat.zero_le _, rfl, okTo_zero l, Below.refl _ _⟩
  case round =>
    obtain ⟨j, hj, rfl, hok, hb⟩ := hrel
    have HB := Lib.hid hb
    have HO := Lib.hid hok
    clear hb hok
    by_cases hlt : j < n
    · obtain ⟨b, o, ⟨xk, xm, xt, xi⟩, rfl, hx, hc0, hc1, hc2, hc3⟩ := fds_at (H.out.same HB.out) hlt
      have HX := Lib.hid hx
      have hjl : j < l.length := by rw [hl.out]; exact hlt
      have htl : (l.take j).length = j := by rw [List.length_take]; omega
      have HTL := Lib.hid htl
      clear hx htl
      dsimp only at hc0 hc1 hc2 hc3
      by_cases h1 : 1 ≤ xk ∧ xk ≤ 3
      · have e1 : decide ((1 : Int) ≤ xk ∧ xk ≤ 3) = true := by simpa using h1
        by_cases h2 : xk = 1
        · have e2 : (xk == 1) = true := by simpa using h2
          have hM : mostOf xk = 99 := by rw [h2]; rfl
          clear h1 h2
          by_cases h3 : 1 ≤ xm ∧ xm ≤ 99
          · have e3 : decide ((1 : Int) ≤ xm ∧ xm ≤ 99) = true := by simpa using h3
            have hfo1 : ∀ cb, condOk (l.take j) ⟨xk, xm, xt, xi⟩ = cb → fieldOk (l.take j) ⟨xk, xm, xt, xi⟩ = cb := fun cb hcb => by unfold fieldOk; rw [hcb]; dsimp only; rw [hM, e3]; simp
            have HF := Lib.hid hfo1
            clear hfo1 h3 hM
            by_cases h4 : xt = -1
            · have e4 : (xt == -1) = true := by simpa using h4
              by_cases h5 : xi = 0
              · have e5 : (xi != 0) = false := by simpa using h5
                have hcd : condOk (l.take j) ⟨xk, xm, xt, xi⟩ = true := by unfold condOk; dsimp only; rw [if_pos h4]; simpa using h5
                clear h4 h5
                have hfo : fieldOk (l.take j) ⟨xk, xm, xt, xi⟩ = true := by exact HF.out _ hcd
                have HOK := Lib.hid (okTo_succ HO.out HX.out hfo)
                clear hfo
                go_wp2_with (go_at_call 58; refine (l1R_any _ _ _ _).mono ?_; (first | rw [e1] | rw [e3]); rintro e w' ⟨rfl, rfl⟩)
                go_roundw
                case rel => exact ⟨j + 1, by omega, by go_num, HOK.out, HB.out.alloc HB.out.size _⟩
                case measure => simp [intOf]; omega
              · have e5 : (xi != 0) = true := by simpa using h5
                have hcd : condOk (l.take j) ⟨xk, xm, xt, xi⟩ = false := by unfold condOk; dsimp only; rw [if_pos h4]; simpa using h5
                clear h4 h5
                have hfo : fieldOk (l.take j) ⟨xk, xm, xt, xi⟩ = false := by exact HF.out _ hcd
                have HNO := Lib.hid (isFmt_no HX.out hfo)
                clear hfo
                go_wp2_with (go_at_call 58; refine (l1R_any _ _ _ _).mono ?_; (first | rw [e1] | rw [e3]); rintro e w' ⟨rfl, rfl⟩)
                go_ret
                exact ⟨by rw [HNO.out]; rfl, HB.out.alloc HB.out.size _⟩
            · have e4 : (xt == -1) = false := by simpa using h4
              by_cases h5 : 0 ≤ xt ∧ xt ≤ (j : Int) - 1
              · obtain ⟨k, rfl⟩ : ∃ k : Nat, xt = k := ⟨xt.toNat, by omega⟩
                have hkj : k < j := by omega
                have hkn : k < n := by omega
                have hkn2 : (k : Int) < (n : Int) := by omega
                have e5 : decide ((0 : Int) ≤ (k : Int) ∧ (k : Int) ≤ (j : Int) - 1) = true := by simpa using h5
                obtain ⟨b', o', g, hbo, hg, hd0, hd1, hd2, hd3⟩ := fds_at (H.out.same HB.out) (j := k) hkn
                cases hbo
                have hgt : (l.take j)[k]? = some g := by rw [List.getElem?_take, if_pos hkj]; exact hg
                have hcd0 : condOk (l.take j) ⟨xk, xm, k, xi⟩ = (decide (g.kind = 1) && decide (g.cond = -1) && decide (0 ≤ xi ∧ xi ≤ g.max)) := by
                  unfold condOk
                  dsimp only
                  rw [if_neg h4, HTL.out, decide_eq_true h5, Int.toNat_natCast, hgt]
                  rfl
                have ha0 : ∀ ob, (wr.alloc ob).cell? ⟨b, o + k * 4, none⟩ = some (.int .i64 g.kind) := fun ob => by rw [(alloc_same wr ob).cell (cell_in hd0)]; exact hd0
                have ha1 : ∀ ob, (wr.alloc ob).cell? ⟨b, o + k * 4 + 1, none⟩ = some (.int .i64 g.max) := fun ob => by rw [(alloc_same wr ob).cell (cell_in hd1)]; exact hd1
                have ha2 : ∀ ob, (wr.alloc ob).cell? ⟨b, o + k * 4 + 2, none⟩ = some (.int .i64 g.cond) := fun ob => by rw [(alloc_same wr ob).cell (cell_in hd2)]; exact hd2
                have e7 : IntKind.i64.wrap ((j : Int) - 1) = (j : Int) - 1 := by simp only [IntKind.wrap, IntKind.bits, IntKind.signed]; simp; omega
                have e8 : decide ((k : Int) ≤ IntKind.i64.wrap ((j : Int) - 1)) = true := by rw [e7]; exact decide_eq_true (by omega)
                have e9 : decide ((k : Int) ≤ (j : Int) - 1) = true := decide_eq_true (by omega)
                clear hd0 hd1 hd2 hd3 hg hgt h4 h5 e7
                by_cases q1 : g.kind = 1
                · have b1 : (g.kind != 1) = false := by simpa using q1
                  by_cases q2 : g.cond = -1
                  · have b2 : (g.cond != -1) = false := by simpa using q2
                    by_cases q3 : 0 ≤ xi ∧ xi ≤ g.max
                    · have e6 : decide ((0 : Int) ≤ xi ∧ xi ≤ g.max) = true := by simpa using q3
                      rw [decide_eq_true q1, decide_eq_true q2, decide_eq_true q3] at hcd0
                      clear q1 q2 q3
                      have hfo : fieldOk (l.take j) ⟨xk, xm, k, xi⟩ = true := by exact HF.out _ hcd0
                      have HOK := Lib.hid (okTo_succ HO.out HX.out hfo)
                      clear hfo
                      go_wp2_with (go_at_call 58; refine (l1R_any _ _ _ _).mono ?_; (first | rw [e1] | rw [e3]); rintro e w' ⟨rfl, rfl⟩)
                      go_quiet ((go_at_call 58; exact Calls.quiet_of_same (l1R_q _ _ _ _)))
                      go_wp2_with (go_at_call 58; refine (l1R_any _ _ _ _).mono ?_; (first | rw [e1] | rw [e3]); rintro e w' ⟨rfl, rfl⟩)
                      go_roundw
                      case rel => exact ⟨j + 1, by omega, by go_num, HOK.out, (HB.out.alloc HB.out.size _).trans ((drewN_same _ _).mono (HB.out.alloc HB.out.size _).size)⟩
                      case measure => simp [intOf]; omega
                    · have e6 : decide ((0 : Int) ≤ xi ∧ xi ≤ g.max) = false := by simpa using q3
                      rw [decide_eq_true q1, decide_eq_true q2, decide_eq_false q3] at hcd0
                      clear q1 q2 q3
                      have hfo : fieldOk (l.take j) ⟨xk, xm, k, xi⟩ = false := by exact HF.out _ hcd0
                      have HNO := Lib.hid (isFmt_no HX.out hfo)
                      clear hfo
                      go_wp2_with (go_at_call 58; refine (l1R_any _ _ _ _).mono ?_; (first | rw [e1] | rw [e3]); rintro e w' ⟨rfl, rfl⟩)
                      go_quiet ((go_at_call 58; exact Calls.quiet_of_same (l1R_q _ _ _ _)))
                      go_wp2_with (go_at_call 58; refine (l1R_any _ _ _ _).mono ?_; (first | rw [e1] | rw [e3]); rintro e w' ⟨rfl, rfl⟩)
                      go_ret
                      exact ⟨by rw [HNO.out]; rfl, (HB.out.alloc HB.out.size _).trans ((drewN_same _ _).mono (HB.out.alloc HB.out.size _).size)⟩
                  · have b2 : (g.cond != -1) = true := by simpa using q2
                    rw [decide_eq_true q1, decide_eq_false q2] at hcd0
                    clear q1 q2
                    have hfo : fieldOk (l.take j) ⟨xk, xm, k, xi⟩ = false := by exact HF.out _ hcd0
                    have HNO := Lib.hid (isFmt_no HX.out hfo)
                    clear hfo
                    go_wp2_with (go_at_call 58; refine (l1R_any _ _ _ _).mono ?_; (first | rw [e1] | rw [e3]); rintro e w' ⟨rfl, rfl⟩)
                    go_quiet ((go_at_call 58; exact Calls.quiet_of_same (l1R_q _ _ _ _)))
                    go_wp2_with (go_at_call 58; refine (l1R_any _ _ _ _).mono ?_; (first | rw [e1] | rw [e3]); rintro e w' ⟨rfl, rfl⟩)
                    go_ret
                    exact ⟨by rw [HNO.out]; rfl, (HB.out.alloc HB.out.size _).trans ((drewN_same _ _).mono (HB.out.alloc HB.out.size _).size)⟩
                · have b1 : (g.kind != 1) = true := by simpa using q1
                  rw [decide_eq_false q1] at hcd0
                  clear q1
                  have hfo : fieldOk (l.take j) ⟨xk, xm, k, xi⟩ = false := by exact HF.out _ hcd0
                  have HNO := Lib.hid (isFmt_no HX.out hfo)
                  clear hfo
                  go_wp2_with (go_at_call 58; refine (l1R_any _ _ _ _).mono ?_; (first | rw [e1] | rw [e3]); rintro e w' ⟨rfl, rfl⟩)
                  go_quiet ((go_at_call 58; exact Calls.quiet_of_same (l1R_q _ _ _ _)))
                  go_wp2_with (go_at_call 58; refine (l1R_any _ _ _ _).mono ?_; (first | rw [e1] | rw [e3]); rintro e w' ⟨rfl, rfl⟩)
                  go_ret
                  exact ⟨by rw [HNO.out]; rfl, (HB.out.alloc HB.out.size _).trans ((drewN_same _ _).mono (HB.out.alloc HB.out.size _).size)⟩
              · have e5 : decide ((0 : Int) ≤ xt ∧ xt ≤ (j : Int) - 1) = false := by simpa using h5
                have hcd : condOk (l.take j) ⟨xk, xm, xt, xi⟩ = false := by unfold condOk; dsimp only; rw [if_neg h4, HTL.out, decide_eq_false h5]; rfl
                clear h4 h5
                have hfo : fieldOk (l.take j) ⟨xk, xm, xt, xi⟩ = false := by exact HF.out _ hcd
                have HNO := Lib.hid (isFmt_no HX.out hfo)
                clear hfo
                go_wp2_with (go_at_call 58; refine (l1R_any _ _ _ _).mono ?_; (first | rw [e1] | rw [e3]); rintro e w' ⟨rfl, rfl⟩)
                go_quiet ((go_at_call 58; exact Calls.quiet_of_same (l1R_q _ _ _ _)))
                go_wp2_with (go_at_call 58; refine (l1R_any _ _ _ _).mono ?_; (first | rw [e1] | rw [e3]); rintro e w' ⟨rfl, rfl⟩)
                go_ret
                exact ⟨by rw [HNO.out]; rfl, (HB.out.alloc HB.out.size _).trans ((drewN_same _ _).mono (HB.out.alloc HB.out.size _).size)⟩
          · have e3 : decide ((1 : Int) ≤ xm ∧ xm ≤ 99) = false := by simpa using h3
            have hfo : fieldOk (l.take j) ⟨xk, xm, xt, xi⟩ = false := by unfold fieldOk; dsimp only; rw [hM, e3]; rfl
            have HNO := Lib.hid (isFmt_no HX.out hfo)
            clear hfo
            go_wp2_with (go_at_call 58; refine (l1R_any _ _ _ _).mono ?_; (first | rw [e1] | rw [e3]); rintro e w' ⟨rfl, rfl⟩)
            go_ret
            exact ⟨by rw [HNO.out]; rfl, HB.out.alloc HB.out.size _⟩
        · have e2 : (xk == 1) = false := by simpa using h2
          have hM : mostOf xk = 5 := by unfold mostOf; rw [if_neg h2]; split <;> first | rfl | (rw [if_pos (by omega)])
          clear h1 h2
          by_cases h3 : 1 ≤ xm ∧ xm ≤ 5
          · have e3 : decide ((1 : Int) ≤ xm ∧ xm ≤ 5) = true := by simpa using h3
            have hfo1 : ∀ cb, condOk (l.take j) ⟨xk, xm, xt, xi⟩ = cb → fieldOk (l.take j) ⟨xk, xm, xt, xi⟩ = cb := fun cb hcb => by unfold fieldOk; rw [hcb]; dsimp only; rw [hM, e3]; simp
            have HF := Lib.hid hfo1
            clear hfo1 h3 hM
            by_cases h4 : xt = -1
            · have e4 : (xt == -1) = true := by simpa using h4
              by_cases h5 : xi = 0
              · have e5 : (xi != 0) = false := by simpa using h5
                have hcd : condOk (l.take j) ⟨xk, xm, xt, xi⟩ = true := by unfold condOk; dsimp only; rw [if_pos h4]; simpa using h5
                clear h4 h5
                have hfo : fieldOk (l.take j) ⟨xk, xm, xt, xi⟩ = true := by exact HF.out _ hcd
                have HOK := Lib.hid (okTo_succ HO.out HX.out hfo)
                clear hfo
                go_wp2_with (go_at_call 58; refine (l1R_any _ _ _ _).mono ?_; (first | rw [e1] | rw [e3]); rintro e w' ⟨rfl, rfl⟩)
                go_roundw
                case rel => exact ⟨j + 1, by omega, by go_num, HOK.out, HB.out.alloc HB.out.size _⟩
                case measure => simp [intOf]; omega
              · have e5 : (xi != 0) = true := by simpa using h5
                have hcd : condOk (l.take j) ⟨xk, xm, xt, xi⟩ = false := by unfold condOk; dsimp only; rw [if_pos h4]; simpa using h5
                clear h4 h5
                have hfo : fieldOk (l.take j) ⟨xk, xm, xt, xi⟩ = false := by exact HF.out _ hcd
                have HNO := Lib.hid (isFmt_no HX.out hfo)
                clear hfo
                go_wp2_with (go_at_call 58; refine (l1R_any _ _ _ _).mono ?_; (first | rw [e1] | rw [e3]); rintro e w' ⟨rfl, rfl⟩)
                go_ret
                exact ⟨by rw [HNO.out]; rfl, HB.out.alloc HB.out.size _⟩
            · have e4 : (xt == -1) = false := by simpa using h4
              by_cases h5 : 0 ≤ xt ∧ xt ≤ (j : Int) - 1
              · obtain ⟨k, rfl⟩ : ∃ k : Nat, xt = k := ⟨xt.toNat, by omega⟩
                have hkj : k < j := by omega
                have hkn : k < n := by omega
                have hkn2 : (k : Int) < (n : Int) := by omega
                have e5 : decide ((0 : Int) ≤ (k : Int) ∧ (k : Int) ≤ (j : Int) - 1) = true := by simpa using h5
                obtain ⟨b', o', g, hbo, hg, hd0, hd1, hd2, hd3⟩ := fds_at (H.out.same HB.out) (j := k) hkn
                cases hbo
                have hgt : (l.take j)[k]? = some g := by rw [List.getElem?_take, if_pos hkj]; exact hg
                have hcd0 : condOk (l.take j) ⟨xk, xm, k, xi⟩ = (decide (g.kind = 1) && decide (g.cond = -1) && decide (0 ≤ xi ∧ xi ≤ g.max)) := by
                  unfold condOk
                  dsimp only
                  rw [if_neg h4, HTL.out, decide_eq_true h5, Int.toNat_natCast, hgt]
                  rfl
                have ha0 : ∀ ob, (wr.alloc ob).cell? ⟨b, o + k * 4, none⟩ = some (.int .i64 g.kind) := fun ob => by rw [(alloc_same wr ob).cell (cell_in hd0)]; exact hd0
                have ha1 : ∀ ob, (wr.alloc ob).cell? ⟨b, o + k * 4 + 1, none⟩ = some (.int .i64 g.max) := fun ob => by rw [(alloc_same wr ob).cell (cell_in hd1)]; exact hd1
                have ha2 : ∀ ob, (wr.alloc ob).cell? ⟨b, o + k * 4 + 2, none⟩ = some (.int .i64 g.cond) := fun ob => by rw [(alloc_same wr ob).cell (cell_in hd2)]; exact hd2
                have e7 : IntKind.i64.wrap ((j : Int) - 1) = (j : Int) - 1 := by simp only [IntKind.wrap, IntKind.bits, IntKind.signed]; simp; omega
                have e8 : decide ((k : Int) ≤ IntKind.i64.wrap ((j : Int) - 1)) = true := by rw [e7]; exact decide_eq_true (by omega)
                have e9 : decide ((k : Int) ≤ (j : Int) - 1) = true := decide_eq_true (by omega)
                clear hd0 hd1 hd2 hd3 hg hgt h4 h5 e7
                by_cases q1 : g.kind = 1
                · have b1 : (g.kind != 1) = false := by simpa using q1
                  by_cases q2 : g.cond = -1
                  · have b2 : (g.cond != -1) = false := by simpa using q2
                    by_cases q3 : 0 ≤ xi ∧ xi ≤ g.max
                    · have e6 : decide ((0 : Int) ≤ xi ∧ xi ≤ g.max) = true := by simpa using q3
                      rw [decide_eq_true q1, decide_eq_true q2, decide_eq_true q3] at hcd0
                      clear q1 q2 q3
                      have hfo : fieldOk (l.take j) ⟨xk, xm, k, xi⟩ = true := by exact HF.out _ hcd0
                      have HOK := Lib.hid (okTo_succ HO.out HX.out hfo)
                      clear hfo
                      go_wp2_with (go_at_call 58; refine (l1R_any _ _ _ _).mono ?_; (first | rw [e1] | rw [e3]); rintro e w' ⟨rfl, rfl⟩)
                      go_quiet ((go_at_call 58; exact Calls.quiet_of_same (l1R_q _ _ _ _)))
                      go_wp2_with (go_at_call 58; refine (l1R_any _ _ _ _).mono ?_; (first | rw [e1] | rw [e3]); rintro e w' ⟨rfl, rfl⟩)
                      go_roundw
                      case rel => exact ⟨j + 1, by omega, by go_num, HOK.out, (HB.out.alloc HB.out.size _).trans ((drewN_same _ _).mono (HB.out.alloc HB.out.size _).size)⟩
                      case measure => simp [intOf]; omega
                    · have e6 : decide ((0 : Int) ≤ xi ∧ xi ≤ g.max) = false := by simpa using q3
                      rw [decide_eq_true q1, decide_eq_true q2, decide_eq_false q3] at hcd0
                      clear q1 q2 q3
                      have hfo : fieldOk (l.take j) ⟨xk, xm, k, xi⟩ = false := by exact HF.out _ hcd0
                      have HNO := Lib.hid (isFmt_no HX.out hfo)
                      clear hfo
                      go_wp2_with (go_at_call 58; refine (l1R_any _ _ _ _).mono ?_; (first | rw [e1] | rw [e3]); rintro e w' ⟨rfl, rfl⟩)
                      go_quiet ((go_at_call 58; exact Calls.quiet_of_same (l1R_q _ _ _ _)))
                      go_wp2_with (go_at_call 58; refine (l1R_any _ _ _ _).mono ?_; (first | rw [e1] | rw [e3]); rintro e w' ⟨rfl, rfl⟩)
                      go_ret
                      exact ⟨by rw [HNO.out]; rfl, (HB.out.alloc HB.out.size _).trans ((drewN_same _ _).mono (HB.out.alloc HB.out.size _).size)⟩
                  · have b2 : (g.cond != -1) = true := by simpa using q2
                    rw [decide_eq_true q1, decide_eq_false q2] at hcd0
                    clear q1 q2
                    have hfo : fieldOk (l.take j) ⟨xk, xm, k, xi⟩ = false := by exact HF.out _ hcd0
                    have HNO := Lib.hid (isFmt_no HX.out hfo)
                    clear hfo
                    go_wp2_with (go_at_call 58; refine (l1R_any _ _ _ _).mono ?_; (first | rw [e1] | rw [e3]); rintro e w' ⟨rfl, rfl⟩)
                    go_quiet ((go_at_call 58; exact Calls.quiet_of_same (l1R_q _ _ _ _)))
                    go_wp2_with (go_at_call 58; refine (l1R_any _ _ _ _).mono ?_; (first | rw [e1] | rw [e3]); rintro e w' ⟨rfl, rfl⟩)
                    go_ret
                    exact ⟨by rw [HNO.out]; rfl, (HB.out.alloc HB.out.size _).trans ((drewN_same _ _).mono (HB.out.alloc HB.out.size _).size)⟩
                · have b1 : (g.kind != 1) = true := by simpa using q1
                  rw [decide_eq_false q1] at hcd0
                  clear q1
                  have hfo : fieldOk (l.take j) ⟨xk, xm, k, xi⟩ = false := by exact HF.out _ hcd0
                  have HNO := Lib.hid (isFmt_no HX.out hfo)
                  clear hfo
                  go_wp2_with (go_at_call 58; refine (l1R_any _ _ _ _).mono ?_; (first | rw [e1] | rw [e3]); rintro e w' ⟨rfl, rfl⟩)
                  go_quiet ((go_at_call 58; exact Calls.quiet_of_same (l1R_q _ _ _ _)))
                  go_wp2_with (go_at_call 58; refine (l1R_any _ _ _ _).mono ?_; (first | rw [e1] | rw [e3]); rintro e w' ⟨rfl, rfl⟩)
                  go_ret
                  exact ⟨by rw [HNO.out]; rfl, (HB.out.alloc HB.out.size _).trans ((drewN_same _ _).mono (HB.out.alloc HB.out.size _).size)⟩
              · have e5 : decide ((0 : Int) ≤ xt ∧ xt ≤ (j : Int) - 1) = false := by simpa using h5
                have hcd : condOk (l.take j) ⟨xk, xm, xt, xi⟩ = false := by unfold condOk; dsimp only; rw [if_neg h4, HTL.out, decide_eq_false h5]; rfl
                clear h4 h5
                have hfo : fieldOk (l.take j) ⟨xk, xm, xt, xi⟩ = false := by exact HF.out _ hcd
                have HNO := Lib.hid (isFmt_no HX.out hfo)
                clear hfo
                go_wp2_with (go_at_call 58; refine (l1R_any _ _ _ _).mono ?_; (first | rw [e1] | rw [e3]); rintro e w' ⟨rfl, rfl⟩)
                go_quiet ((go_at_call 58; exact Calls.quiet_of_same (l1R_q _ _ _ _)))
                go_wp2_with (go_at_call 58; refine (l1R_any _ _ _ _).mono ?_; (first | rw [e1] | rw [e3]); rintro e w' ⟨rfl, rfl⟩)
                go_ret
                exact ⟨by rw [HNO.out]; rfl, (HB.out.alloc HB.out.size _).trans ((drewN_same _ _).mono (HB.out.alloc HB.out.size _).size)⟩
          · have e3 : decide ((1 : Int) ≤ xm ∧ xm ≤ 5) = false := by simpa using h3
            have hfo : fieldOk (l.take j) ⟨xk, xm, xt, xi⟩ = false := by unfold fieldOk; dsimp only; rw [hM, e3]; rfl
            have HNO := Lib.hid (isFmt_no HX.out hfo)
            clear hfo
            go_wp2_with (go_at_call 58; refine (l1R_any _ _ _ _).mono ?_; (first | rw [e1] | rw [e3]); rintro e w' ⟨rfl, rfl⟩)
            go_ret
            exact ⟨by rw [HNO.out]; rfl, HB.out.alloc HB.out.size _⟩
      · have e1 : decide ((1 : Int) ≤ xk ∧ xk ≤ 3) = false := by simpa using h1
        have e2 : (xk == 1) = false := by simp; omega
        have hM : mostOf xk = 0 := by unfold mostOf; rw [if_neg (by omega), if_neg (by omega), if_neg (by omega)]
        have hfo : fieldOk (l.take j) ⟨xk, xm, xt, xi⟩ = false := by unfold fieldOk; dsimp only; rw [hM, decide_eq_false (by omega)]; rfl
        have HNO := Lib.hid (isFmt_no HX.out hfo)
        clear hfo
        go_wp2_with (go_at_call 58; refine (l1R_any _ _ _ _).mono ?_; (first | rw [e1]); rintro e w' ⟨rfl, rfl⟩)
        go_ret
        exact ⟨by rw [HNO.out]; rfl, HB.out.alloc HB.out.size _⟩
    · obtain rfl : j = n := by omega
      by_cases hlen : 1 ≤ j ∧ j ≤ 6
      · have e0 : decide ((1 : Int) ≤ (j : Int) ∧ (j : Int) ≤ 6) = true := by simp; omega
        have HY := Lib.hid (isFmt_yes (l := l) (by rw [hl.out]; exact hlen) (by rw [hl.out]; exact HO.out))
        clear hlen
        go_wp2_with (go_at_call 58; refine (l1R_any _ _ _ _).mono ?_; rw [e0]; rintro e w' ⟨rfl, rfl⟩)
        go_ret
        exact ⟨by rw [HY.out]; rfl, HB.out⟩
      · have e0 : decide ((1 : Int) ≤ (j : Int) ∧ (j : Int) ≤ 6) = false := by simp; omega
        have HY := Lib.hid (isFmt_len (l := l) (by rw [hl.out]; exact hlen))
        clear hlen
        go_wp2_with (go_at_call 58; refine (l1R_any _ _ _ _).mono ?_; rw [e0]; rintro e w' ⟨rfl, rfl⟩)
        go_ret
        exact ⟨by rw [HY.out]; rfl, HB.out⟩
end Go.Proofs.Ytjmabidahofbbaa
