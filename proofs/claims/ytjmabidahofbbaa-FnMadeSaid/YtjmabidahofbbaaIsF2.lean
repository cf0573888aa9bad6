/- Being a format, by the program. -/
import Derived.Test.YtjmabidahofbbaaIsF
namespace Go.Proofs.Ytjmabidahofbbaa
open Go.ChangeShapes Go.WideShapes Go.ChangeAt Go.RowKit
set_option linter.unusedVariables false
set_option linter.unusedSimpArgs false

theorem cell_kept {w w' : World} {a : Addr} {v : Value} (h : w.cell? a = some v) (hb : Below w.heap.size w w') : w'.cell? a = some v := by
  rw [hb.cell (cell_in h)]; exact h
theorem typeNum (w : World) : Calls Try.prog 56 #[.int .i64 1] w fun e w' => e = .returned (.iface 117 (.agg #[])) ∧ w = w' := typeOf_any 1 w
theorem typeText (w : World) : Calls Try.prog 56 #[.int .i64 2] w fun e w' => e = .returned (.iface 118 (.agg #[])) ∧ w = w' := typeOf_any 2 w
theorem typeList (w : World) : Calls Try.prog 56 #[.int .i64 3] w fun e w' => e = .returned (.iface 119 (.agg #[])) ∧ w = w' := typeOf_any 3 w
theorem typeNo (k : Int) (h : k ≠ 1 ∧ k ≠ 2 ∧ k ≠ 3) (w : World) : Calls Try.prog 56 #[.int .i64 k] w fun e w' => e = .returned (.iface 120 (.agg #[])) ∧ w = w' := by
  have := typeOf_any k w
  rw [show typeVal k = .iface 120 (.agg #[]) by simp [typeVal, h.1, h.2.1, h.2.2]] at this
  exact this
theorem okTo_zero (l : List Fd) : okTo l 0 := fun i x h => absurd h (by omega)
theorem okTo_succ {l : List Fd} {j : Nat} {x : Fd} (h : okTo l j) (hx : l[j]? = some x) (hf : fieldOk (l.take j) x = true) : okTo l (j + 1) := by
  intro i y hi hy
  by_cases e : i = j
  · subst e
    rw [hx] at hy
    cases hy
    exact hf
  · exact h i y (by omega) hy
theorem isFmt_no {l : List Fd} {j : Nat} {x : Fd} (hx : l[j]? = some x) (hf : fieldOk (l.take j) x = false) : isFmt l = false := by
  have hj : j < l.length := by
    rcases Nat.lt_or_ge j l.length with h | h
    · exact h
    · rw [List.getElem?_eq_none h] at hx; cases hx
  unfold isFmt
  refine @decide_eq_false _ (Classical.propDecidable _) fun h => ?_
  have := h.2 j x hj hx
  rw [hf] at this
  cases this
theorem isFmt_yes {l : List Fd} (h : 1 ≤ l.length ∧ l.length ≤ 6) (ho : okTo l l.length) : isFmt l = true := @decide_eq_true _ (Classical.propDecidable _) ⟨h, ho⟩
theorem isFmt_len {l : List Fd} (h : ¬ (1 ≤ l.length ∧ l.length ≤ 6)) : isFmt l = false := @decide_eq_false _ (Classical.propDecidable _) fun h' => h h'.1
theorem isFmt_iff {l : List Fd} : isFmt l = true ↔ IsFmt l := by unfold isFmt; exact @decide_eq_true_iff _ (Classical.propDecidable _)

set_option maxHeartbeats 4000000 in
set_option maxRecDepth 100000 in
theorem isFormat_any (a : Option Addr) (n c : Nat) (l : List Fd) (w : World) (h : Fds w a n l) (hc : n ≤ c ∧ (c : Int) ≤ 9223372036854775807) :
    Calls Try.prog 14 #[.slice a n c] w (Told (.bool (isFmt l)) w) := by
  have H := Lib.hid h
  have hl := Lib.hid h.len
  have hn := h.fits
  clear h
  by_cases hlen : 1 ≤ n ∧ n ≤ 6
  · have e0 : decide ((1 : Int) ≤ (n : Int) ∧ (n : Int) ≤ 6) = true := by simp; omega
    go_enter Try.func14, Try.ntmps14
    go_wp2_with (go_at_call 55; refine (inR_any _ _ _ _).mono ?_; rw [e0]; rintro e w' ⟨rfl, rfl⟩)
    clear e0
    go_loopw [11] (fun i wr => ∃ j : Nat, j ≤ n ∧ i = .int .i64 j ∧ okTo l j ∧ Below w.heap.size w wr) (fun i _ => n - (intOf i).toNat)
    case atStart => exact ⟨0, Nat.zero_le _, rfl, okTo_zero l, Below.refl _ _⟩
    case round =>
      obtain ⟨j, hj, rfl, hok, hb⟩ := hrel
      have HB := Lib.hid hb
      have HO := Lib.hid hok
      clear hb hok
      by_cases hlt : j < n
      · obtain ⟨b, o, ⟨xk, xm, xt, xi⟩, rfl, hx, hc0, hc1, hc2, hc3⟩ := fds_at (H.out.same HB.out) hlt
        have HX := Lib.hid hx
        clear hx
        dsimp only at hc0 hc1 hc2 hc3
        have hcond : Hid (∀ (cb : Bool), condOk (l.take j) ⟨xk, xm, xt, xi⟩ = cb → ∀ (w0 : World), Below w.heap.size w w0 → Calls Try.prog 57 #[.slice (some ⟨b, o, none⟩) j c, .agg #[.int .i64 xk, .int .i64 xm, .int .i64 xt, .int .i64 xi]] w0 (Told (.bool cb) w0)) := Lib.hid (fun cb e w0 hb0 => e ▸ condAfter_any (some ⟨b, o, none⟩) j c (l.take j) ⟨xk, xm, xt, xi⟩ w0 ((H.out.same hb0).take j hj) (by omega))
        go_wp2_with fail
        have HW0 : Hid (Below w.heap.size w (wr.alloc (.cells #[.int .i64 xk, .int .i64 xm, .int .i64 xt, .int .i64 xi] 70))) := Lib.hid (HB.out.alloc HB.out.size _)
        have C0 : Hid ((wr.alloc (.cells #[.int .i64 xk, .int .i64 xm, .int .i64 xt, .int .i64 xi] 70)).cell? ⟨wr.heap.size, 0, none⟩ = some (.int .i64 xk)) := Lib.hid (by simp)
        have C1 : Hid ((wr.alloc (.cells #[.int .i64 xk, .int .i64 xm, .int .i64 xt, .int .i64 xi] 70)).cell? ⟨wr.heap.size, 1, none⟩ = some (.int .i64 xm)) := Lib.hid (by simp)
        have C2 : Hid ((wr.alloc (.cells #[.int .i64 xk, .int .i64 xm, .int .i64 xt, .int .i64 xi] 70)).cell? ⟨wr.heap.size, 2, none⟩ = some (.int .i64 xt)) := Lib.hid (by simp)
        have C3 : Hid ((wr.alloc (.cells #[.int .i64 xk, .int .i64 xm, .int .i64 xt, .int .i64 xi] 70)).cell? ⟨wr.heap.size, 3, none⟩ = some (.int .i64 xi)) := Lib.hid (by simp)
        clear hc0 hc1 hc2 hc3
        generalize wr.alloc (.cells #[.int .i64 xk, .int .i64 xm, .int .i64 xt, .int .i64 xi] 70) = W0 at *
        have hjc : j ≤ c := by omega
        have hjc2 : (j : Int) ≤ (c : Int) := by omega
        have hoc : ¬ c = 0 := by omega
        have hq : xk = 1 ∨ xk = 2 ∨ xk = 3 ∨ (xk ≠ 1 ∧ xk ≠ 2 ∧ xk ≠ 3) := by omega
        rcases hq with rfl | rfl | rfl | hno
        · by_cases hm : 1 ≤ xm ∧ xm ≤ 99
          · have em : decide ((1 : Int) ≤ xm ∧ xm ≤ 99) = true := by simpa using hm
            cases hcd : condOk (l.take j) ⟨1, xm, xt, xi⟩ with
            | true =>
              have hfo : fieldOk (l.take j) ⟨1, xm, xt, xi⟩ = true := by unfold fieldOk; rw [hcd]; simp [mostOf]; omega
              have HOK := Lib.hid (okTo_succ HO.out HX.out hfo)
              clear hfo hm
              go_region_held3 (fun w' => w'.cell? ⟨wr.heap.size, 0, none⟩ = some (.int .i64 1) ∧ w'.cell? ⟨wr.heap.size, 1, none⟩ = some (.int .i64 xm) ∧ w'.cell? ⟨wr.heap.size, 2, none⟩ = some (.int .i64 xt) ∧ w'.cell? ⟨wr.heap.size, 3, none⟩ = some (.int .i64 xi)) (first | exact ⟨cell_kept C0.out (Below.refl _ _).drew, cell_kept C1.out (Below.refl _ _).drew, cell_kept C2.out (Below.refl _ _).drew, cell_kept C3.out (Below.refl _ _).drew⟩ | exact ⟨cell_kept C0.out HB1.out, cell_kept C1.out HB1.out, cell_kept C2.out HB1.out, cell_kept C3.out HB1.out⟩ | exact ⟨cell_kept C0.out HB2.out, cell_kept C1.out HB2.out, cell_kept C2.out HB2.out, cell_kept C3.out HB2.out⟩) ((first | (go_at_call 56; refine (typeNum _).mono ?_; rintro e w' ⟨rfl, rfl⟩) | (go_at_call 134; refine (mostNum_any _).mono ?_; rintro e w1 ⟨rfl, hb1⟩; have HB1 : Hid (Below W0.heap.size W0 w1) := Lib.hid ((Below.refl _ W0).drew.trans (hb1.mono (Nat.le_refl _))); clear hb1) | (go_at_call 55; refine (inR_any _ _ _ _).mono ?_; rw [em]; rintro e w' ⟨rfl, rfl⟩) | (go_at_call 57; refine (hcond.out _ hcd w1 (HW0.out.trans (HB1.out.mono HW0.out.size))).mono ?_; rintro e w2 ⟨rfl, hb2⟩; have HB2 : Hid (Below W0.heap.size W0 w2) := Lib.hid (HB1.out.trans (hb2.mono HB1.out.size)); clear hb2)))
              all_goals
                go_wp2
                go_roundw
                case rel => exact ⟨j + 1, by omega, by go_num, HOK.out, HW0.out.trans (HB2.out.mono HW0.out.size)⟩
                case measure => simp [intOf]; omega
            | false =>
              have hfo : fieldOk (l.take j) ⟨1, xm, xt, xi⟩ = false := by unfold fieldOk; rw [hcd]; simp
              have HNO := Lib.hid (isFmt_no HX.out hfo)
              clear hfo hm
              go_region_held3 (fun w' => w'.cell? ⟨wr.heap.size, 0, none⟩ = some (.int .i64 1) ∧ w'.cell? ⟨wr.heap.size, 1, none⟩ = some (.int .i64 xm) ∧ w'.cell? ⟨wr.heap.size, 2, none⟩ = some (.int .i64 xt) ∧ w'.cell? ⟨wr.heap.size, 3, none⟩ = some (.int .i64 xi)) (first | exact ⟨cell_kept C0.out (Below.refl _ _).drew, cell_kept C1.out (Below.refl _ _).drew, cell_kept C2.out (Below.refl _ _).drew, cell_kept C3.out (Below.refl _ _).drew⟩ | exact ⟨cell_kept C0.out HB1.out, cell_kept C1.out HB1.out, cell_kept C2.out HB1.out, cell_kept C3.out HB1.out⟩ | exact ⟨cell_kept C0.out HB2.out, cell_kept C1.out HB2.out, cell_kept C2.out HB2.out, cell_kept C3.out HB2.out⟩) ((first | (go_at_call 56; refine (typeNum _).mono ?_; rintro e w' ⟨rfl, rfl⟩) | (go_at_call 134; refine (mostNum_any _).mono ?_; rintro e w1 ⟨rfl, hb1⟩; have HB1 : Hid (Below W0.heap.size W0 w1) := Lib.hid ((Below.refl _ W0).drew.trans (hb1.mono (Nat.le_refl _))); clear hb1) | (go_at_call 55; refine (inR_any _ _ _ _).mono ?_; rw [em]; rintro e w' ⟨rfl, rfl⟩) | (go_at_call 57; refine (hcond.out _ hcd w1 (HW0.out.trans (HB1.out.mono HW0.out.size))).mono ?_; rintro e w2 ⟨rfl, hb2⟩; have HB2 : Hid (Below W0.heap.size W0 w2) := Lib.hid (HB1.out.trans (hb2.mono HB1.out.size)); clear hb2)))
              all_goals
                go_wp2
                go_ret
                exact ⟨by rw [HNO.out]; rfl, HW0.out.trans (HB2.out.mono HW0.out.size)⟩
          · have em : decide ((1 : Int) ≤ xm ∧ xm ≤ 99) = false := by simpa using hm
            have hcd : condOk (l.take j) ⟨1, xm, xt, xi⟩ = condOk (l.take j) ⟨1, xm, xt, xi⟩ := rfl
            have hfo : fieldOk (l.take j) ⟨1, xm, xt, xi⟩ = false := by unfold fieldOk; rw [show mostOf (Fd.mk 1 xm xt xi).kind = 99 from by simp [mostOf]]; dsimp only; rw [em]; rfl
            have HNO := Lib.hid (isFmt_no HX.out hfo)
            clear hfo hm
            refine wp_region_held_drew (S := (fun w' => w'.cell? ⟨wr.heap.size, 0, none⟩ = some (.int .i64 1) ∧ w'.cell? ⟨wr.heap.size, 1, none⟩ = some (.int .i64 xm))) (by kernel_rfl) ⟨cell_kept C0.out (Below.refl _ _).drew, cell_kept C1.out (Below.refl _ _).drew⟩ (fun hHeld => ?_)
            refine wpAnyH_take (i := 0) (v := ?v1) (by simp only [List.getElem?_toArray, List.getElem?_cons_succ, List.getElem?_cons_zero]; rfl) (by kernel_rfl) (by kernel_rfl) (by kernel_rfl) (by exact fun _ _ _ h => h) (Or.inl ⟨by rfl, fun w9 hS9 => ?hy1⟩) hHeld ?rest1
            case hy1 =>
              obtain ⟨hs0, hs1⟩ := hS9
              go_simp
              try with_reducible rfl
            try simp only [Act.put, List.setIfInBounds_toArray, List.set_cons_zero, List.set_cons_succ]
            refine wpAnyH_take (i := 1) (v := ?v2) (by simp only [List.getElem?_toArray, List.getElem?_cons_succ, List.getElem?_cons_zero]; rfl) (by kernel_rfl) (by kernel_rfl) (by kernel_rfl) (by exact fun _ _ _ h => h) (Or.inl ⟨by rfl, fun w9 hS9 => ?hy2⟩) hHeld ?rest2
            case hy2 =>
              obtain ⟨hs0, hs1⟩ := hS9
              go_simp
              try with_reducible rfl
            try simp only [Act.put, List.setIfInBounds_toArray, List.set_cons_zero, List.set_cons_succ]
            refine wpAnyH_take (i := 2) (v := ?v3) (by simp only [List.getElem?_toArray, List.getElem?_cons_succ, List.getElem?_cons_zero]; rfl) (by kernel_rfl) (by kernel_rfl) (by kernel_rfl) (by exact fun _ _ _ h => h) (Or.inl ⟨by rfl, fun w9 hS9 => ?hy3⟩) hHeld ?rest3
            case hy3 =>
              obtain ⟨hs0, hs1⟩ := hS9
              go_simp
              try with_reducible rfl
            try simp only [Act.put, List.setIfInBounds_toArray, List.set_cons_zero, List.set_cons_succ]
            refine wpAnyH_take (i := 3) (v := ?v4) (by simp only [List.getElem?_toArray, List.getElem?_cons_succ, List.getElem?_cons_zero]; rfl) (by kernel_rfl) (by kernel_rfl) (by kernel_rfl) (by exact fun _ _ _ h => h) (Or.inl ⟨by rfl, fun w9 hS9 => ?hy4⟩) hHeld ?rest4
            case hy4 =>
              obtain ⟨hs0, hs1⟩ := hS9
              go_simp
              try with_reducible rfl
            try simp only [Act.put, List.setIfInBounds_toArray, List.set_cons_zero, List.set_cons_succ]
            refine wpAnyH_ready (rs := [4]) (by kernel_rfl) (by simp) (AllReadyH.cons (by simp only [List.getElem?_toArray, List.getElem?_cons_succ, List.getElem?_cons_zero]; rfl) (fun K hK => ?_) AllReadyH.nil)
            go_simp
            refine (typeNum _).mono ?_
            rintro e w' ⟨rfl, rfl⟩
            go_wp2_with fail
            refine hK.out _ _ ⟨cell_kept C0.out (Below.refl _ _).drew, cell_kept C1.out (Below.refl _ _).drew⟩ (fun hHeld => ?_)
            clear hK K
            try simp only [Act.put, List.setIfInBounds_toArray, List.set_cons_zero, List.set_cons_succ]
            refine wpAnyH_ready (rs := [5]) (by kernel_rfl) (by simp) (AllReadyH.cons (by simp only [List.getElem?_toArray, List.getElem?_cons_succ, List.getElem?_cons_zero]; rfl) (fun K hK => ?_) AllReadyH.nil)
            go_simp
            go_wp2_with (go_at_call 134; refine (mostNum_any _).mono ?_; rintro e w1 ⟨rfl, hb1⟩; have HB1 : Hid (Below W0.heap.size W0 w1) := Lib.hid ((Below.refl _ W0).drew.trans (hb1.mono (Nat.le_refl _))); clear hb1)
            refine hK.out _ _ ⟨cell_kept C0.out HB1.out, cell_kept C1.out HB1.out⟩ (fun hHeld => ?_)
            clear hK K
            try simp only [Act.put, List.setIfInBounds_toArray, List.set_cons_zero, List.set_cons_succ]
            refine wpAnyH_ready (rs := [6]) (by kernel_rfl) (by simp) (AllReadyH.cons (by simp only [List.getElem?_toArray, List.getElem?_cons_succ, List.getElem?_cons_zero]; rfl) (fun K hK => ?_) AllReadyH.nil)
            go_simp
            refine (inR_any _ _ _ _).mono ?_
            rw [em]
            rintro e w' ⟨rfl, rfl⟩
            go_wp2_with fail
            refine hK.out _ _ ⟨cell_kept C0.out HB1.out, cell_kept C1.out HB1.out⟩ (fun hHeld => ?_)
            clear hK K
            try simp only [Act.put, List.setIfInBounds_toArray, List.set_cons_zero, List.set_cons_succ]
            refine wpAnyH_take (i := 7) (v := ?v5) (by simp only [List.getElem?_toArray, List.getElem?_cons_succ, List.getElem?_cons_zero]; rfl) (by kernel_rfl) (by kernel_rfl) (by kernel_rfl) (by exact fun _ _ _ h => h) (Or.inl ⟨by rfl, fun w9 hS9 => ?hy5⟩) hHeld ?rest5
            case hy5 =>
              obtain ⟨hs0, hs1⟩ := hS9
              go_simp
              try with_reducible rfl
            try simp only [Act.put, List.setIfInBounds_toArray, List.set_cons_zero, List.set_cons_succ]
            refine wpAnyH_take (i := 8) (v := ?v6) (by simp only [List.getElem?_toArray, List.getElem?_cons_succ, List.getElem?_cons_zero]; rfl) (by kernel_rfl) (by kernel_rfl) (by kernel_rfl) (by exact fun _ _ _ h => h) (Or.inl ⟨by rfl, fun w9 hS9 => ?hy6⟩) hHeld ?rest6
            case hy6 =>
              obtain ⟨hs0, hs1⟩ := hS9
              go_simp
              try with_reducible rfl
            try simp only [Act.put, List.setIfInBounds_toArray, List.set_cons_zero, List.set_cons_succ]
            refine wpAnyH_take (i := 9) (v := undef) (by simp only [List.getElem?_toArray, List.getElem?_cons_succ, List.getElem?_cons_zero]; rfl) (by kernel_rfl) (by kernel_rfl) (by kernel_rfl) (by exact fun _ _ _ h => h) (Or.inr ⟨by rfl, rfl⟩) hHeld ?_
            try simp only [Act.put, List.setIfInBounds_toArray, List.set_cons_zero, List.set_cons_succ]
            refine wpAnyH_take (i := 10) (v := undef) (by simp only [List.getElem?_toArray, List.getElem?_cons_succ, List.getElem?_cons_zero]; rfl) (by kernel_rfl) (by kernel_rfl) (by kernel_rfl) (by exact fun _ _ _ h => h) (Or.inr ⟨by rfl, rfl⟩) hHeld ?_
            try simp only [Act.put, List.setIfInBounds_toArray, List.set_cons_zero, List.set_cons_succ]
            refine wpAnyH_take (i := 11) (v := undef) (by simp only [List.getElem?_toArray, List.getElem?_cons_succ, List.getElem?_cons_zero]; rfl) (by kernel_rfl) (by kernel_rfl) (by kernel_rfl) (by exact fun _ _ _ h => h) (Or.inr ⟨by rfl, rfl⟩) hHeld ?_
            try simp only [Act.put, List.setIfInBounds_toArray, List.set_cons_zero, List.set_cons_succ]
            refine wpAnyH_take (i := 12) (v := undef) (by simp only [List.getElem?_toArray, List.getElem?_cons_succ, List.getElem?_cons_zero]; rfl) (by kernel_rfl) (by kernel_rfl) (by kernel_rfl) (by exact fun _ _ _ h => h) (Or.inr ⟨by rfl, rfl⟩) hHeld ?_
            try simp only [Act.put, List.setIfInBounds_toArray, List.set_cons_zero, List.set_cons_succ]
            refine wpAnyH_take (i := 13) (v := undef) (by simp only [List.getElem?_toArray, List.getElem?_cons_succ, List.getElem?_cons_zero]; rfl) (by kernel_rfl) (by kernel_rfl) (by kernel_rfl) (by exact fun _ _ _ h => h) (Or.inr ⟨by rfl, rfl⟩) hHeld ?_
            try simp only [Act.put, List.setIfInBounds_toArray, List.set_cons_zero, List.set_cons_succ]
            refine wpAnyH_take (i := 14) (v := undef) (by simp only [List.getElem?_toArray, List.getElem?_cons_succ, List.getElem?_cons_zero]; rfl) (by kernel_rfl) (by kernel_rfl) (by kernel_rfl) (by exact fun _ _ _ h => h) (Or.inr ⟨by rfl, rfl⟩) hHeld ?_
            try simp only [Act.put, List.setIfInBounds_toArray, List.set_cons_zero, List.set_cons_succ]
            refine wpAnyH_take (i := 15) (v := ?v7) (by simp only [List.getElem?_toArray, List.getElem?_cons_succ, List.getElem?_cons_zero]; rfl) (by kernel_rfl) (by kernel_rfl) (by kernel_rfl) (by exact fun _ _ _ h => h) (Or.inl ⟨by rfl, fun w9 hS9 => ?hy7⟩) hHeld ?rest7
            case hy7 =>
              obtain ⟨hs0, hs1⟩ := hS9
              go_simp
              try with_reducible rfl
            try simp only [Act.put, List.setIfInBounds_toArray, List.set_cons_zero, List.set_cons_succ]
            refine wpAnyH_done (by kernel_rfl) ?_ _
            all_goals
              go_wp2
              go_ret
              exact ⟨by rw [HNO.out]; rfl, HW0.out.trans (HB1.out.mono HW0.out.size)⟩
        · by_cases hm : 1 ≤ xm ∧ xm ≤ 5
          · have em : decide ((1 : Int) ≤ xm ∧ xm ≤ 5) = true := by simpa using hm
            cases hcd : condOk (l.take j) ⟨2, xm, xt, xi⟩ with
            | true =>
              have hfo : fieldOk (l.take j) ⟨2, xm, xt, xi⟩ = true := by unfold fieldOk; rw [hcd]; simp [mostOf]; omega
              have HOK := Lib.hid (okTo_succ HO.out HX.out hfo)
              clear hfo hm
              go_region_held3 (fun w' => w'.cell? ⟨wr.heap.size, 0, none⟩ = some (.int .i64 2) ∧ w'.cell? ⟨wr.heap.size, 1, none⟩ = some (.int .i64 xm) ∧ w'.cell? ⟨wr.heap.size, 2, none⟩ = some (.int .i64 xt) ∧ w'.cell? ⟨wr.heap.size, 3, none⟩ = some (.int .i64 xi)) (first | exact ⟨cell_kept C0.out (Below.refl _ _).drew, cell_kept C1.out (Below.refl _ _).drew, cell_kept C2.out (Below.refl _ _).drew, cell_kept C3.out (Below.refl _ _).drew⟩ | exact ⟨cell_kept C0.out HB1.out, cell_kept C1.out HB1.out, cell_kept C2.out HB1.out, cell_kept C3.out HB1.out⟩ | exact ⟨cell_kept C0.out HB2.out, cell_kept C1.out HB2.out, cell_kept C2.out HB2.out, cell_kept C3.out HB2.out⟩) ((first | (go_at_call 56; refine (typeText _).mono ?_; rintro e w' ⟨rfl, rfl⟩) | (go_at_call 136; refine (mostText_any _).mono ?_; rintro e w1 ⟨rfl, hb1⟩; have HB1 : Hid (Below W0.heap.size W0 w1) := Lib.hid ((Below.refl _ W0).drew.trans (hb1.mono (Nat.le_refl _))); clear hb1) | (go_at_call 55; refine (inR_any _ _ _ _).mono ?_; rw [em]; rintro e w' ⟨rfl, rfl⟩) | (go_at_call 57; refine (hcond.out _ hcd w1 (HW0.out.trans (HB1.out.mono HW0.out.size))).mono ?_; rintro e w2 ⟨rfl, hb2⟩; have HB2 : Hid (Below W0.heap.size W0 w2) := Lib.hid (HB1.out.trans (hb2.mono HB1.out.size)); clear hb2)))
              all_goals
                go_wp2
                go_roundw
                case rel => exact ⟨j + 1, by omega, by go_num, HOK.out, HW0.out.trans (HB2.out.mono HW0.out.size)⟩
                case measure => simp [intOf]; omega
            | false =>
              have hfo : fieldOk (l.take j) ⟨2, xm, xt, xi⟩ = false := by unfold fieldOk; rw [hcd]; simp
              have HNO := Lib.hid (isFmt_no HX.out hfo)
              clear hfo hm
              go_region_held3 (fun w' => w'.cell? ⟨wr.heap.size, 0, none⟩ = some (.int .i64 2) ∧ w'.cell? ⟨wr.heap.size, 1, none⟩ = some (.int .i64 xm) ∧ w'.cell? ⟨wr.heap.size, 2, none⟩ = some (.int .i64 xt) ∧ w'.cell? ⟨wr.heap.size, 3, none⟩ = some (.int .i64 xi)) (first | exact ⟨cell_kept C0.out (Below.refl _ _).drew, cell_kept C1.out (Below.refl _ _).drew, cell_kept C2.out (Below.refl _ _).drew, cell_kept C3.out (Below.refl _ _).drew⟩ | exact ⟨cell_kept C0.out HB1.out, cell_kept C1.out HB1.out, cell_kept C2.out HB1.out, cell_kept C3.out HB1.out⟩ | exact ⟨cell_kept C0.out HB2.out, cell_kept C1.out HB2.out, cell_kept C2.out HB2.out, cell_kept C3.out HB2.out⟩) ((first | (go_at_call 56; refine (typeText _).mono ?_; rintro e w' ⟨rfl, rfl⟩) | (go_at_call 136; refine (mostText_any _).mono ?_; rintro e w1 ⟨rfl, hb1⟩; have HB1 : Hid (Below W0.heap.size W0 w1) := Lib.hid ((Below.refl _ W0).drew.trans (hb1.mono (Nat.le_refl _))); clear hb1) | (go_at_call 55; refine (inR_any _ _ _ _).mono ?_; rw [em]; rintro e w' ⟨rfl, rfl⟩) | (go_at_call 57; refine (hcond.out _ hcd w1 (HW0.out.trans (HB1.out.mono HW0.out.size))).mono ?_; rintro e w2 ⟨rfl, hb2⟩; have HB2 : Hid (Below W0.heap.size W0 w2) := Lib.hid (HB1.out.trans (hb2.mono HB1.out.size)); clear hb2)))
              all_goals
                go_wp2
                go_ret
                exact ⟨by rw [HNO.out]; rfl, HW0.out.trans (HB2.out.mono HW0.out.size)⟩
          · have em : decide ((1 : Int) ≤ xm ∧ xm ≤ 5) = false := by simpa using hm
            have hcd : condOk (l.take j) ⟨2, xm, xt, xi⟩ = condOk (l.take j) ⟨2, xm, xt, xi⟩ := rfl
            have hfo : fieldOk (l.take j) ⟨2, xm, xt, xi⟩ = false := by unfold fieldOk; rw [show mostOf (Fd.mk 2 xm xt xi).kind = 5 from by simp [mostOf]]; dsimp only; rw [em]; rfl
            have HNO := Lib.hid (isFmt_no HX.out hfo)
            clear hfo hm
            refine wp_region_held_drew (S := (fun w' => w'.cell? ⟨wr.heap.size, 0, none⟩ = some (.int .i64 2) ∧ w'.cell? ⟨wr.heap.size, 1, none⟩ = some (.int .i64 xm))) (by kernel_rfl) ⟨cell_kept C0.out (Below.refl _ _).drew, cell_kept C1.out (Below.refl _ _).drew⟩ (fun hHeld => ?_)
            refine wpAnyH_take (i := 0) (v := ?v8) (by simp only [List.getElem?_toArray, List.getElem?_cons_succ, List.getElem?_cons_zero]; rfl) (by kernel_rfl) (by kernel_rfl) (by kernel_rfl) (by exact fun _ _ _ h => h) (Or.inl ⟨by rfl, fun w9 hS9 => ?hy8⟩) hHeld ?rest8
            case hy8 =>
              obtain ⟨hs0, hs1⟩ := hS9
              go_simp
              try with_reducible rfl
            try simp only [Act.put, List.setIfInBounds_toArray, List.set_cons_zero, List.set_cons_succ]
            refine wpAnyH_take (i := 1) (v := ?v9) (by simp only [List.getElem?_toArray, List.getElem?_cons_succ, List.getElem?_cons_zero]; rfl) (by kernel_rfl) (by kernel_rfl) (by kernel_rfl) (by exact fun _ _ _ h => h) (Or.inl ⟨by rfl, fun w9 hS9 => ?hy9⟩) hHeld ?rest9
            case hy9 =>
              obtain ⟨hs0, hs1⟩ := hS9
              go_simp
              try with_reducible rfl
            try simp only [Act.put, List.setIfInBounds_toArray, List.set_cons_zero, List.set_cons_succ]
            refine wpAnyH_take (i := 2) (v := ?v10) (by simp only [List.getElem?_toArray, List.getElem?_cons_succ, List.getElem?_cons_zero]; rfl) (by kernel_rfl) (by kernel_rfl) (by kernel_rfl) (by exact fun _ _ _ h => h) (Or.inl ⟨by rfl, fun w9 hS9 => ?hy10⟩) hHeld ?rest10
            case hy10 =>
              obtain ⟨hs0, hs1⟩ := hS9
              go_simp
              try with_reducible rfl
            try simp only [Act.put, List.setIfInBounds_toArray, List.set_cons_zero, List.set_cons_succ]
            refine wpAnyH_take (i := 3) (v := ?v11) (by simp only [List.getElem?_toArray, List.getElem?_cons_succ, List.getElem?_cons_zero]; rfl) (by kernel_rfl) (by kernel_rfl) (by kernel_rfl) (by exact fun _ _ _ h => h) (Or.inl ⟨by rfl, fun w9 hS9 => ?hy11⟩) hHeld ?rest11
            case hy11 =>
              obtain ⟨hs0, hs1⟩ := hS9
              go_simp
              try with_reducible rfl
            try simp only [Act.put, List.setIfInBounds_toArray, List.set_cons_zero, List.set_cons_succ]
            refine wpAnyH_ready (rs := [4]) (by kernel_rfl) (by simp) (AllReadyH.cons (by simp only [List.getElem?_toArray, List.getElem?_cons_succ, List.getElem?_cons_zero]; rfl) (fun K hK => ?_) AllReadyH.nil)
            go_simp
            refine (typeText _).mono ?_
            rintro e w' ⟨rfl, rfl⟩
            go_wp2_with fail
            refine hK.out _ _ ⟨cell_kept C0.out (Below.refl _ _).drew, cell_kept C1.out (Below.refl _ _).drew⟩ (fun hHeld => ?_)
            clear hK K
            try simp only [Act.put, List.setIfInBounds_toArray, List.set_cons_zero, List.set_cons_succ]
            refine wpAnyH_ready (rs := [5]) (by kernel_rfl) (by simp) (AllReadyH.cons (by simp only [List.getElem?_toArray, List.getElem?_cons_succ, List.getElem?_cons_zero]; rfl) (fun K hK => ?_) AllReadyH.nil)
            go_simp
            go_wp2_with (go_at_call 136; refine (mostText_any _).mono ?_; rintro e w1 ⟨rfl, hb1⟩; have HB1 : Hid (Below W0.heap.size W0 w1) := Lib.hid ((Below.refl _ W0).drew.trans (hb1.mono (Nat.le_refl _))); clear hb1)
            refine hK.out _ _ ⟨cell_kept C0.out HB1.out, cell_kept C1.out HB1.out⟩ (fun hHeld => ?_)
            clear hK K
            try simp only [Act.put, List.setIfInBounds_toArray, List.set_cons_zero, List.set_cons_succ]
            refine wpAnyH_ready (rs := [6]) (by kernel_rfl) (by simp) (AllReadyH.cons (by simp only [List.getElem?_toArray, List.getElem?_cons_succ, List.getElem?_cons_zero]; rfl) (fun K hK => ?_) AllReadyH.nil)
            go_simp
            refine (inR_any _ _ _ _).mono ?_
            rw [em]
            rintro e w' ⟨rfl, rfl⟩
            go_wp2_with fail
            refine hK.out _ _ ⟨cell_kept C0.out HB1.out, cell_kept C1.out HB1.out⟩ (fun hHeld => ?_)
            clear hK K
            try simp only [Act.put, List.setIfInBounds_toArray, List.set_cons_zero, List.set_cons_succ]
            refine wpAnyH_take (i := 7) (v := ?v12) (by simp only [List.getElem?_toArray, List.getElem?_cons_succ, List.getElem?_cons_zero]; rfl) (by kernel_rfl) (by kernel_rfl) (by kernel_rfl) (by exact fun _ _ _ h => h) (Or.inl ⟨by rfl, fun w9 hS9 => ?hy12⟩) hHeld ?rest12
            case hy12 =>
              obtain ⟨hs0, hs1⟩ := hS9
              go_simp
              try with_reducible rfl
            try simp only [Act.put, List.setIfInBounds_toArray, List.set_cons_zero, List.set_cons_succ]
            refine wpAnyH_take (i := 8) (v := ?v13) (by simp only [List.getElem?_toArray, List.getElem?_cons_succ, List.getElem?_cons_zero]; rfl) (by kernel_rfl) (by kernel_rfl) (by kernel_rfl) (by exact fun _ _ _ h => h) (Or.inl ⟨by rfl, fun w9 hS9 => ?hy13⟩) hHeld ?rest13
            case hy13 =>
              obtain ⟨hs0, hs1⟩ := hS9
              go_simp
              try with_reducible rfl
            try simp only [Act.put, List.setIfInBounds_toArray, List.set_cons_zero, List.set_cons_succ]
            refine wpAnyH_take (i := 9) (v := undef) (by simp only [List.getElem?_toArray, List.getElem?_cons_succ, List.getElem?_cons_zero]; rfl) (by kernel_rfl) (by kernel_rfl) (by kernel_rfl) (by exact fun _ _ _ h => h) (Or.inr ⟨by rfl, rfl⟩) hHeld ?_
            try simp only [Act.put, List.setIfInBounds_toArray, List.set_cons_zero, List.set_cons_succ]
            refine wpAnyH_take (i := 10) (v := undef) (by simp only [List.getElem?_toArray, List.getElem?_cons_succ, List.getElem?_cons_zero]; rfl) (by kernel_rfl) (by kernel_rfl) (by kernel_rfl) (by exact fun _ _ _ h => h) (Or.inr ⟨by rfl, rfl⟩) hHeld ?_
            try simp only [Act.put, List.setIfInBounds_toArray, List.set_cons_zero, List.set_cons_succ]
            refine wpAnyH_take (i := 11) (v := undef) (by simp only [List.getElem?_toArray, List.getElem?_cons_succ, List.getElem?_cons_zero]; rfl) (by kernel_rfl) (by kernel_rfl) (by kernel_rfl) (by exact fun _ _ _ h => h) (Or.inr ⟨by rfl, rfl⟩) hHeld ?_
            try simp only [Act.put, List.setIfInBounds_toArray, List.set_cons_zero, List.set_cons_succ]
            refine wpAnyH_take (i := 12) (v := undef) (by simp only [List.getElem?_toArray, List.getElem?_cons_succ, List.getElem?_cons_zero]; rfl) (by kernel_rfl) (by kernel_rfl) (by kernel_rfl) (by exact fun _ _ _ h => h) (Or.inr ⟨by rfl, rfl⟩) hHeld ?_
            try simp only [Act.put, List.setIfInBounds_toArray, List.set_cons_zero, List.set_cons_succ]
            refine wpAnyH_take (i := 13) (v := undef) (by simp only [List.getElem?_toArray, List.getElem?_cons_succ, List.getElem?_cons_zero]; rfl) (by kernel_rfl) (by kernel_rfl) (by kernel_rfl) (by exact fun _ _ _ h => h) (Or.inr ⟨by rfl, rfl⟩) hHeld ?_
            try simp only [Act.put, List.setIfInBounds_toArray, List.set_cons_zero, List.set_cons_succ]
            refine wpAnyH_take (i := 14) (v := undef) (by simp only [List.getElem?_toArray, List.getElem?_cons_succ, List.getElem?_cons_zero]; rfl) (by kernel_rfl) (by kernel_rfl) (by kernel_rfl) (by exact fun _ _ _ h => h) (Or.inr ⟨by rfl, rfl⟩) hHeld ?_
            try simp only [Act.put, List.setIfInBounds_toArray, List.set_cons_zero, List.set_cons_succ]
            refine wpAnyH_take (i := 15) (v := ?v14) (by simp only [List.getElem?_toArray, List.getElem?_cons_succ, List.getElem?_cons_zero]; rfl) (by kernel_rfl) (by kernel_rfl) (by kernel_rfl) (by exact fun _ _ _ h => h) (Or.inl ⟨by rfl, fun w9 hS9 => ?hy14⟩) hHeld ?rest14
            case hy14 =>
              obtain ⟨hs0, hs1⟩ := hS9
              go_simp
              try with_reducible rfl
            try simp only [Act.put, List.setIfInBounds_toArray, List.set_cons_zero, List.set_cons_succ]
            refine wpAnyH_done (by kernel_rfl) ?_ _
            all_goals
              go_wp2
              go_ret
              exact ⟨by rw [HNO.out]; rfl, HW0.out.trans (HB1.out.mono HW0.out.size)⟩
        · by_cases hm : 1 ≤ xm ∧ xm ≤ 5
          · have em : decide ((1 : Int) ≤ xm ∧ xm ≤ 5) = true := by simpa using hm
            cases hcd : condOk (l.take j) ⟨3, xm, xt, xi⟩ with
            | true =>
              have hfo : fieldOk (l.take j) ⟨3, xm, xt, xi⟩ = true := by unfold fieldOk; rw [hcd]; simp [mostOf]; omega
              have HOK := Lib.hid (okTo_succ HO.out HX.out hfo)
              clear hfo hm
              go_region_held3 (fun w' => w'.cell? ⟨wr.heap.size, 0, none⟩ = some (.int .i64 3) ∧ w'.cell? ⟨wr.heap.size, 1, none⟩ = some (.int .i64 xm) ∧ w'.cell? ⟨wr.heap.size, 2, none⟩ = some (.int .i64 xt) ∧ w'.cell? ⟨wr.heap.size, 3, none⟩ = some (.int .i64 xi)) (first | exact ⟨cell_kept C0.out (Below.refl _ _).drew, cell_kept C1.out (Below.refl _ _).drew, cell_kept C2.out (Below.refl _ _).drew, cell_kept C3.out (Below.refl _ _).drew⟩ | exact ⟨cell_kept C0.out HB1.out, cell_kept C1.out HB1.out, cell_kept C2.out HB1.out, cell_kept C3.out HB1.out⟩ | exact ⟨cell_kept C0.out HB2.out, cell_kept C1.out HB2.out, cell_kept C2.out HB2.out, cell_kept C3.out HB2.out⟩) ((first | (go_at_call 56; refine (typeList _).mono ?_; rintro e w' ⟨rfl, rfl⟩) | (go_at_call 138; refine (mostList_any _).mono ?_; rintro e w1 ⟨rfl, hb1⟩; have HB1 : Hid (Below W0.heap.size W0 w1) := Lib.hid ((Below.refl _ W0).drew.trans (hb1.mono (Nat.le_refl _))); clear hb1) | (go_at_call 55; refine (inR_any _ _ _ _).mono ?_; rw [em]; rintro e w' ⟨rfl, rfl⟩) | (go_at_call 57; refine (hcond.out _ hcd w1 (HW0.out.trans (HB1.out.mono HW0.out.size))).mono ?_; rintro e w2 ⟨rfl, hb2⟩; have HB2 : Hid (Below W0.heap.size W0 w2) := Lib.hid (HB1.out.trans (hb2.mono HB1.out.size)); clear hb2)))
              all_goals
                go_wp2
                go_roundw
                case rel => exact ⟨j + 1, by omega, by go_num, HOK.out, HW0.out.trans (HB2.out.mono HW0.out.size)⟩
                case measure => simp [intOf]; omega
            | false =>
              have hfo : fieldOk (l.take j) ⟨3, xm, xt, xi⟩ = false := by unfold fieldOk; rw [hcd]; simp
              have HNO := Lib.hid (isFmt_no HX.out hfo)
              clear hfo hm
              go_region_held3 (fun w' => w'.cell? ⟨wr.heap.size, 0, none⟩ = some (.int .i64 3) ∧ w'.cell? ⟨wr.heap.size, 1, none⟩ = some (.int .i64 xm) ∧ w'.cell? ⟨wr.heap.size, 2, none⟩ = some (.int .i64 xt) ∧ w'.cell? ⟨wr.heap.size, 3, none⟩ = some (.int .i64 xi)) (first | exact ⟨cell_kept C0.out (Below.refl _ _).drew, cell_kept C1.out (Below.refl _ _).drew, cell_kept C2.out (Below.refl _ _).drew, cell_kept C3.out (Below.refl _ _).drew⟩ | exact ⟨cell_kept C0.out HB1.out, cell_kept C1.out HB1.out, cell_kept C2.out HB1.out, cell_kept C3.out HB1.out⟩ | exact ⟨cell_kept C0.out HB2.out, cell_kept C1.out HB2.out, cell_kept C2.out HB2.out, cell_kept C3.out HB2.out⟩) ((first | (go_at_call 56; refine (typeList _).mono ?_; rintro e w' ⟨rfl, rfl⟩) | (go_at_call 138; refine (mostList_any _).mono ?_; rintro e w1 ⟨rfl, hb1⟩; have HB1 : Hid (Below W0.heap.size W0 w1) := Lib.hid ((Below.refl _ W0).drew.trans (hb1.mono (Nat.le_refl _))); clear hb1) | (go_at_call 55; refine (inR_any _ _ _ _).mono ?_; rw [em]; rintro e w' ⟨rfl, rfl⟩) | (go_at_call 57; refine (hcond.out _ hcd w1 (HW0.out.trans (HB1.out.mono HW0.out.size))).mono ?_; rintro e w2 ⟨rfl, hb2⟩; have HB2 : Hid (Below W0.heap.size W0 w2) := Lib.hid (HB1.out.trans (hb2.mono HB1.out.size)); clear hb2)))
              all_goals
                go_wp2
                go_ret
                exact ⟨by rw [HNO.out]; rfl, HW0.out.trans (HB2.out.mono HW0.out.size)⟩
          · have em : decide ((1 : Int) ≤ xm ∧ xm ≤ 5) = false := by simpa using hm
            have hcd : condOk (l.take j) ⟨3, xm, xt, xi⟩ = condOk (l.take j) ⟨3, xm, xt, xi⟩ := rfl
            have hfo : fieldOk (l.take j) ⟨3, xm, xt, xi⟩ = false := by unfold fieldOk; rw [show mostOf (Fd.mk 3 xm xt xi).kind = 5 from by simp [mostOf]]; dsimp only; rw [em]; rfl
            have HNO := Lib.hid (isFmt_no HX.out hfo)
            clear hfo hm
            refine wp_region_held_drew (S := (fun w' => w'.cell? ⟨wr.heap.size, 0, none⟩ = some (.int .i64 3) ∧ w'.cell? ⟨wr.heap.size, 1, none⟩ = some (.int .i64 xm))) (by kernel_rfl) ⟨cell_kept C0.out (Below.refl _ _).drew, cell_kept C1.out (Below.refl _ _).drew⟩ (fun hHeld => ?_)
            refine wpAnyH_take (i := 0) (v := ?v15) (by simp only [List.getElem?_toArray, List.getElem?_cons_succ, List.getElem?_cons_zero]; rfl) (by kernel_rfl) (by kernel_rfl) (by kernel_rfl) (by exact fun _ _ _ h => h) (Or.inl ⟨by rfl, fun w9 hS9 => ?hy15⟩) hHeld ?rest15
            case hy15 =>
              obtain ⟨hs0, hs1⟩ := hS9
              go_simp
              try with_reducible rfl
            try simp only [Act.put, List.setIfInBounds_toArray, List.set_cons_zero, List.set_cons_succ]
            refine wpAnyH_take (i := 1) (v := ?v16) (by simp only [List.getElem?_toArray, List.getElem?_cons_succ, List.getElem?_cons_zero]; rfl) (by kernel_rfl) (by kernel_rfl) (by kernel_rfl) (by exact fun _ _ _ h => h) (Or.inl ⟨by rfl, fun w9 hS9 => ?hy16⟩) hHeld ?rest16
            case hy16 =>
              obtain ⟨hs0, hs1⟩ := hS9
              go_simp
              try with_reducible rfl
            try simp only [Act.put, List.setIfInBounds_toArray, List.set_cons_zero, List.set_cons_succ]
            refine wpAnyH_take (i := 2) (v := ?v17) (by simp only [List.getElem?_toArray, List.getElem?_cons_succ, List.getElem?_cons_zero]; rfl) (by kernel_rfl) (by kernel_rfl) (by kernel_rfl) (by exact fun _ _ _ h => h) (Or.inl ⟨by rfl, fun w9 hS9 => ?hy17⟩) hHeld ?rest17
            case hy17 =>
              obtain ⟨hs0, hs1⟩ := hS9
              go_simp
              try with_reducible rfl
            try simp only [Act.put, List.setIfInBounds_toArray, List.set_cons_zero, List.set_cons_succ]
            refine wpAnyH_take (i := 3) (v := ?v18) (by simp only [List.getElem?_toArray, List.getElem?_cons_succ, List.getElem?_cons_zero]; rfl) (by kernel_rfl) (by kernel_rfl) (by kernel_rfl) (by exact fun _ _ _ h => h) (Or.inl ⟨by rfl, fun w9 hS9 => ?hy18⟩) hHeld ?rest18
            case hy18 =>
              obtain ⟨hs0, hs1⟩ := hS9
              go_simp
              try with_reducible rfl
            try simp only [Act.put, List.setIfInBounds_toArray, List.set_cons_zero, List.set_cons_succ]
            refine wpAnyH_ready (rs := [4]) (by kernel_rfl) (by simp) (AllReadyH.cons (by simp only [List.getElem?_toArray, List.getElem?_cons_succ, List.getElem?_cons_zero]; rfl) (fun K hK => ?_) AllReadyH.nil)
            go_simp
            refine (typeList _).mono ?_
            rintro e w' ⟨rfl, rfl⟩
            go_wp2_with fail
            refine hK.out _ _ ⟨cell_kept C0.out (Below.refl _ _).drew, cell_kept C1.out (Below.refl _ _).drew⟩ (fun hHeld => ?_)
            clear hK K
            try simp only [Act.put, List.setIfInBounds_toArray, List.set_cons_zero, List.set_cons_succ]
            refine wpAnyH_ready (rs := [5]) (by kernel_rfl) (by simp) (AllReadyH.cons (by simp only [List.getElem?_toArray, List.getElem?_cons_succ, List.getElem?_cons_zero]; rfl) (fun K hK => ?_) AllReadyH.nil)
            go_simp
            go_wp2_with (go_at_call 138; refine (mostList_any _).mono ?_; rintro e w1 ⟨rfl, hb1⟩; have HB1 : Hid (Below W0.heap.size W0 w1) := Lib.hid ((Below.refl _ W0).drew.trans (hb1.mono (Nat.le_refl _))); clear hb1)
            refine hK.out _ _ ⟨cell_kept C0.out HB1.out, cell_kept C1.out HB1.out⟩ (fun hHeld => ?_)
            clear hK K
            try simp only [Act.put, List.setIfInBounds_toArray, List.set_cons_zero, List.set_cons_succ]
            refine wpAnyH_ready (rs := [6]) (by kernel_rfl) (by simp) (AllReadyH.cons (by simp only [List.getElem?_toArray, List.getElem?_cons_succ, List.getElem?_cons_zero]; rfl) (fun K hK => ?_) AllReadyH.nil)
            go_simp
            refine (inR_any _ _ _ _).mono ?_
            rw [em]
            rintro e w' ⟨rfl, rfl⟩
            go_wp2_with fail
            refine hK.out _ _ ⟨cell_kept C0.out HB1.out, cell_kept C1.out HB1.out⟩ (fun hHeld => ?_)
            clear hK K
            try simp only [Act.put, List.setIfInBounds_toArray, List.set_cons_zero, List.set_cons_succ]
            refine wpAnyH_take (i := 7) (v := ?v19) (by simp only [List.getElem?_toArray, List.getElem?_cons_succ, List.getElem?_cons_zero]; rfl) (by kernel_rfl) (by kernel_rfl) (by kernel_rfl) (by exact fun _ _ _ h => h) (Or.inl ⟨by rfl, fun w9 hS9 => ?hy19⟩) hHeld ?rest19
            case hy19 =>
              obtain ⟨hs0, hs1⟩ := hS9
              go_simp
              try with_reducible rfl
            try simp only [Act.put, List.setIfInBounds_toArray, List.set_cons_zero, List.set_cons_succ]
            refine wpAnyH_take (i := 8) (v := ?v20) (by simp only [List.getElem?_toArray, List.getElem?_cons_succ, List.getElem?_cons_zero]; rfl) (by kernel_rfl) (by kernel_rfl) (by kernel_rfl) (by exact fun _ _ _ h => h) (Or.inl ⟨by rfl, fun w9 hS9 => ?hy20⟩) hHeld ?rest20
            case hy20 =>
              obtain ⟨hs0, hs1⟩ := hS9
              go_simp
              try with_reducible rfl
            try simp only [Act.put, List.setIfInBounds_toArray, List.set_cons_zero, List.set_cons_succ]
            refine wpAnyH_take (i := 9) (v := undef) (by simp only [List.getElem?_toArray, List.getElem?_cons_succ, List.getElem?_cons_zero]; rfl) (by kernel_rfl) (by kernel_rfl) (by kernel_rfl) (by exact fun _ _ _ h => h) (Or.inr ⟨by rfl, rfl⟩) hHeld ?_
            try simp only [Act.put, List.setIfInBounds_toArray, List.set_cons_zero, List.set_cons_succ]
            refine wpAnyH_take (i := 10) (v := undef) (by simp only [List.getElem?_toArray, List.getElem?_cons_succ, List.getElem?_cons_zero]; rfl) (by kernel_rfl) (by kernel_rfl) (by kernel_rfl) (by exact fun _ _ _ h => h) (Or.inr ⟨by rfl, rfl⟩) hHeld ?_
            try simp only [Act.put, List.setIfInBounds_toArray, List.set_cons_zero, List.set_cons_succ]
            refine wpAnyH_take (i := 11) (v := undef) (by simp only [List.getElem?_toArray, List.getElem?_cons_succ, List.getElem?_cons_zero]; rfl) (by kernel_rfl) (by kernel_rfl) (by kernel_rfl) (by exact fun _ _ _ h => h) (Or.inr ⟨by rfl, rfl⟩) hHeld ?_
            try simp only [Act.put, List.setIfInBounds_toArray, List.set_cons_zero, List.set_cons_succ]
            refine wpAnyH_take (i := 12) (v := undef) (by simp only [List.getElem?_toArray, List.getElem?_cons_succ, List.getElem?_cons_zero]; rfl) (by kernel_rfl) (by kernel_rfl) (by kernel_rfl) (by exact fun _ _ _ h => h) (Or.inr ⟨by rfl, rfl⟩) hHeld ?_
            try simp only [Act.put, List.setIfInBounds_toArray, List.set_cons_zero, List.set_cons_succ]
            refine wpAnyH_take (i := 13) (v := undef) (by simp only [List.getElem?_toArray, List.getElem?_cons_succ, List.getElem?_cons_zero]; rfl) (by kernel_rfl) (by kernel_rfl) (by kernel_rfl) (by exact fun _ _ _ h => h) (Or.inr ⟨by rfl, rfl⟩) hHeld ?_
            try simp only [Act.put, List.setIfInBounds_toArray, List.set_cons_zero, List.set_cons_succ]
            refine wpAnyH_take (i := 14) (v := undef) (by simp only [List.getElem?_toArray, List.getElem?_cons_succ, List.getElem?_cons_zero]; rfl) (by kernel_rfl) (by kernel_rfl) (by kernel_rfl) (by exact fun _ _ _ h => h) (Or.inr ⟨by rfl, rfl⟩) hHeld ?_
            try simp only [Act.put, List.setIfInBounds_toArray, List.set_cons_zero, List.set_cons_succ]
            refine wpAnyH_take (i := 15) (v := ?v21) (by simp only [List.getElem?_toArray, List.getElem?_cons_succ, List.getElem?_cons_zero]; rfl) (by kernel_rfl) (by kernel_rfl) (by kernel_rfl) (by exact fun _ _ _ h => h) (Or.inl ⟨by rfl, fun w9 hS9 => ?hy21⟩) hHeld ?rest21
            case hy21 =>
              obtain ⟨hs0, hs1⟩ := hS9
              go_simp
              try with_reducible rfl
            try simp only [Act.put, List.setIfInBounds_toArray, List.set_cons_zero, List.set_cons_succ]
            refine wpAnyH_done (by kernel_rfl) ?_ _
            all_goals
              go_wp2
              go_ret
              exact ⟨by rw [HNO.out]; rfl, HW0.out.trans (HB1.out.mono HW0.out.size)⟩
        · have em : decide ((1 : Int) ≤ xm ∧ xm ≤ 0) = false := by simp; omega
          have hcd : condOk (l.take j) ⟨xk, xm, xt, xi⟩ = condOk (l.take j) ⟨xk, xm, xt, xi⟩ := rfl
          have hfo : fieldOk (l.take j) ⟨xk, xm, xt, xi⟩ = false := by unfold fieldOk; rw [show mostOf (Fd.mk xk xm xt xi).kind = 0 from by simp [mostOf, hno.1, hno.2.1, hno.2.2]]; dsimp only; rw [em]; rfl
          have HNO := Lib.hid (isFmt_no HX.out hfo)
          clear hfo
          refine wp_region_held_drew (S := (fun w' => w'.cell? ⟨wr.heap.size, 0, none⟩ = some (.int .i64 xk) ∧ w'.cell? ⟨wr.heap.size, 1, none⟩ = some (.int .i64 xm))) (by kernel_rfl) ⟨cell_kept C0.out (Below.refl _ _).drew, cell_kept C1.out (Below.refl _ _).drew⟩ (fun hHeld => ?_)
          refine wpAnyH_take (i := 0) (v := ?v22) (by simp only [List.getElem?_toArray, List.getElem?_cons_succ, List.getElem?_cons_zero]; rfl) (by kernel_rfl) (by kernel_rfl) (by kernel_rfl) (by exact fun _ _ _ h => h) (Or.inl ⟨by rfl, fun w9 hS9 => ?hy22⟩) hHeld ?rest22
          case hy22 =>
            obtain ⟨hs0, hs1⟩ := hS9
            go_simp
            try with_reducible rfl
          try simp only [Act.put, List.setIfInBounds_toArray, List.set_cons_zero, List.set_cons_succ]
          refine wpAnyH_take (i := 1) (v := ?v23) (by simp only [List.getElem?_toArray, List.getElem?_cons_succ, List.getElem?_cons_zero]; rfl) (by kernel_rfl) (by kernel_rfl) (by kernel_rfl) (by exact fun _ _ _ h => h) (Or.inl ⟨by rfl, fun w9 hS9 => ?hy23⟩) hHeld ?rest23
          case hy23 =>
            obtain ⟨hs0, hs1⟩ := hS9
            go_simp
            try with_reducible rfl
          try simp only [Act.put, List.setIfInBounds_toArray, List.set_cons_zero, List.set_cons_succ]
          refine wpAnyH_take (i := 2) (v := ?v24) (by simp only [List.getElem?_toArray, List.getElem?_cons_succ, List.getElem?_cons_zero]; rfl) (by kernel_rfl) (by kernel_rfl) (by kernel_rfl) (by exact fun _ _ _ h => h) (Or.inl ⟨by rfl, fun w9 hS9 => ?hy24⟩) hHeld ?rest24
          case hy24 =>
            obtain ⟨hs0, hs1⟩ := hS9
            go_simp
            try with_reducible rfl
          try simp only [Act.put, List.setIfInBounds_toArray, List.set_cons_zero, List.set_cons_succ]
          refine wpAnyH_take (i := 3) (v := ?v25) (by simp only [List.getElem?_toArray, List.getElem?_cons_succ, List.getElem?_cons_zero]; rfl) (by kernel_rfl) (by kernel_rfl) (by kernel_rfl) (by exact fun _ _ _ h => h) (Or.inl ⟨by rfl, fun w9 hS9 => ?hy25⟩) hHeld ?rest25
          case hy25 =>
            obtain ⟨hs0, hs1⟩ := hS9
            go_simp
            try with_reducible rfl
          try simp only [Act.put, List.setIfInBounds_toArray, List.set_cons_zero, List.set_cons_succ]
          refine wpAnyH_ready (rs := [4]) (by kernel_rfl) (by simp) (AllReadyH.cons (by simp only [List.getElem?_toArray, List.getElem?_cons_succ, List.getElem?_cons_zero]; rfl) (fun K hK => ?_) AllReadyH.nil)
          go_simp
          refine (typeNo xk hno _).mono ?_
          rintro e w' ⟨rfl, rfl⟩
          go_wp2_with fail
          refine hK.out _ _ ⟨cell_kept C0.out (Below.refl _ _).drew, cell_kept C1.out (Below.refl _ _).drew⟩ (fun hHeld => ?_)
          clear hK K
          try simp only [Act.put, List.setIfInBounds_toArray, List.set_cons_zero, List.set_cons_succ]
          refine wpAnyH_ready (rs := [5]) (by kernel_rfl) (by simp) (AllReadyH.cons (by simp only [List.getElem?_toArray, List.getElem?_cons_succ, List.getElem?_cons_zero]; rfl) (fun K hK => ?_) AllReadyH.nil)
          go_simp
          go_wp2_with (go_at_call 140; refine (mostNo_any _).mono ?_; rintro e w1 ⟨rfl, hb1⟩; have HB1 : Hid (Below W0.heap.size W0 w1) := Lib.hid ((Below.refl _ W0).drew.trans (hb1.mono (Nat.le_refl _))); clear hb1)
          refine hK.out _ _ ⟨cell_kept C0.out HB1.out, cell_kept C1.out HB1.out⟩ (fun hHeld => ?_)
          clear hK K
          try simp only [Act.put, List.setIfInBounds_toArray, List.set_cons_zero, List.set_cons_succ]
          refine wpAnyH_ready (rs := [6]) (by kernel_rfl) (by simp) (AllReadyH.cons (by simp only [List.getElem?_toArray, List.getElem?_cons_succ, List.getElem?_cons_zero]; rfl) (fun K hK => ?_) AllReadyH.nil)
          go_simp
          refine (inR_any _ _ _ _).mono ?_
          rw [em]
          rintro e w' ⟨rfl, rfl⟩
          go_wp2_with fail
          refine hK.out _ _ ⟨cell_kept C0.out HB1.out, cell_kept C1.out HB1.out⟩ (fun hHeld => ?_)
          clear hK K
          try simp only [Act.put, List.setIfInBounds_toArray, List.set_cons_zero, List.set_cons_succ]
          refine wpAnyH_take (i := 7) (v := ?v26) (by simp only [List.getElem?_toArray, List.getElem?_cons_succ, List.getElem?_cons_zero]; rfl) (by kernel_rfl) (by kernel_rfl) (by kernel_rfl) (by exact fun _ _ _ h => h) (Or.inl ⟨by rfl, fun w9 hS9 => ?hy26⟩) hHeld ?rest26
          case hy26 =>
            obtain ⟨hs0, hs1⟩ := hS9
            go_simp
            try with_reducible rfl
          try simp only [Act.put, List.setIfInBounds_toArray, List.set_cons_zero, List.set_cons_succ]
          refine wpAnyH_take (i := 8) (v := ?v27) (by simp only [List.getElem?_toArray, List.getElem?_cons_succ, List.getElem?_cons_zero]; rfl) (by kernel_rfl) (by kernel_rfl) (by kernel_rfl) (by exact fun _ _ _ h => h) (Or.inl ⟨by rfl, fun w9 hS9 => ?hy27⟩) hHeld ?rest27
          case hy27 =>
            obtain ⟨hs0, hs1⟩ := hS9
            go_simp
            try with_reducible rfl
          try simp only [Act.put, List.setIfInBounds_toArray, List.set_cons_zero, List.set_cons_succ]
          refine wpAnyH_take (i := 9) (v := undef) (by simp only [List.getElem?_toArray, List.getElem?_cons_succ, List.getElem?_cons_zero]; rfl) (by kernel_rfl) (by kernel_rfl) (by kernel_rfl) (by exact fun _ _ _ h => h) (Or.inr ⟨by rfl, rfl⟩) hHeld ?_
          try simp only [Act.put, List.setIfInBounds_toArray, List.set_cons_zero, List.set_cons_succ]
          refine wpAnyH_take (i := 10) (v := undef) (by simp only [List.getElem?_toArray, List.getElem?_cons_succ, List.getElem?_cons_zero]; rfl) (by kernel_rfl) (by kernel_rfl) (by kernel_rfl) (by exact fun _ _ _ h => h) (Or.inr ⟨by rfl, rfl⟩) hHeld ?_
          try simp only [Act.put, List.setIfInBounds_toArray, List.set_cons_zero, List.set_cons_succ]
          refine wpAnyH_take (i := 11) (v := undef) (by simp only [List.getElem?_toArray, List.getElem?_cons_succ, List.getElem?_cons_zero]; rfl) (by kernel_rfl) (by kernel_rfl) (by kernel_rfl) (by exact fun _ _ _ h => h) (Or.inr ⟨by rfl, rfl⟩) hHeld ?_
          try simp only [Act.put, List.setIfInBounds_toArray, List.set_cons_zero, List.set_cons_succ]
          refine wpAnyH_take (i := 12) (v := undef) (by simp only [List.getElem?_toArray, List.getElem?_cons_succ, List.getElem?_cons_zero]; rfl) (by kernel_rfl) (by kernel_rfl) (by kernel_rfl) (by exact fun _ _ _ h => h) (Or.inr ⟨by rfl, rfl⟩) hHeld ?_
          try simp only [Act.put, List.setIfInBounds_toArray, List.set_cons_zero, List.set_cons_succ]
          refine wpAnyH_take (i := 13) (v := undef) (by simp only [List.getElem?_toArray, List.getElem?_cons_succ, List.getElem?_cons_zero]; rfl) (by kernel_rfl) (by kernel_rfl) (by kernel_rfl) (by exact fun _ _ _ h => h) (Or.inr ⟨by rfl, rfl⟩) hHeld ?_
          try simp only [Act.put, List.setIfInBounds_toArray, List.set_cons_zero, List.set_cons_succ]
          refine wpAnyH_take (i := 14) (v := undef) (by simp only [List.getElem?_toArray, List.getElem?_cons_succ, List.getElem?_cons_zero]; rfl) (by kernel_rfl) (by kernel_rfl) (by kernel_rfl) (by exact fun _ _ _ h => h) (Or.inr ⟨by rfl, rfl⟩) hHeld ?_
          try simp only [Act.put, List.setIfInBounds_toArray, List.set_cons_zero, List.set_cons_succ]
          refine wpAnyH_take (i := 15) (v := ?v28) (by simp only [List.getElem?_toArray, List.getElem?_cons_succ, List.getElem?_cons_zero]; rfl) (by kernel_rfl) (by kernel_rfl) (by kernel_rfl) (by exact fun _ _ _ h => h) (Or.inl ⟨by rfl, fun w9 hS9 => ?hy28⟩) hHeld ?rest28
          case hy28 =>
            obtain ⟨hs0, hs1⟩ := hS9
            go_simp
            try with_reducible rfl
          try simp only [Act.put, List.setIfInBounds_toArray, List.set_cons_zero, List.set_cons_succ]
          refine wpAnyH_done (by kernel_rfl) ?_ _
          all_goals
            go_wp2
            go_ret
            exact ⟨by rw [HNO.out]; rfl, HW0.out.trans (HB1.out.mono HW0.out.size)⟩
      · obtain rfl : j = n := by omega
        have hy := isFmt_yes (l := l) (by rw [hl.out]; exact hlen) (by rw [hl.out]; exact HO.out)
        have HY := Lib.hid hy
        clear hy
        go_wp2
        go_ret
        exact ⟨by rw [HY.out]; rfl, HB.out⟩
  · have e0 : decide ((1 : Int) ≤ (n : Int) ∧ (n : Int) ≤ 6) = false := by simp; omega
    have e1 : isFmt l = false := isFmt_len (by rw [hl.out]; exact hlen)
    rw [e1]
    go_enter Try.func14, Try.ntmps14
    go_wp2_with (go_at_call 55; refine (inR_any _ _ _ _).mono ?_; rw [e0]; rintro e w' ⟨rfl, rfl⟩)
    go_ret
    exact ⟨rfl, Below.refl _ _⟩
end Go.Proofs.Ytjmabidahofbbaa
