/- How two formats differ: by the model. -/
import Derived.Test.YtjkjnhkamieljaaWiM
import Derived.Test.YtjkjnhkamieljaaBk
namespace Go.Proofs.Ytjkjnhkamieljaa
open Go.ChangeShapes Go.WideShapes Go.ChangeAt Go.RowKit
set_option linter.unusedVariables false

theorem tail_not {l l' : List Fd} (h : tailOf l l' = true) : within l' l = false := by
  simp only [tailOf, Bool.and_eq_true, decide_eq_true_eq] at h
  cases hq : within l' l with
  | false => rfl
  | true =>
    have := fmtIn_len (within_fmt hq).2.2
    omega
section
variable {a b : Option Addr} {n m c d : Nat} {l l' : List Fd} {w : World}
theorem specEqualFormats_any (h : Fds w a n l) (h' : Fds w b m l') : Calls Try.prog 49 #[.slice a n c, .slice b m d] w (Told (.bool (same l l')) w) := by
  by_cases e : l = l'
  · subst e
    have : same l l = true := by simp [same]
    rw [this]
    exact specEqualFormats_yes h h'
  · have : same l l' = false := by simp [same, e]
    rw [this]
    exact specEqualFormats_no h h' e
set_option maxHeartbeats 2000000 in
set_option maxRecDepth 100000 in
theorem specBreakOf_any (h : Fds w a n l) (h' : Fds w b m l') (hd : m ≤ d ∧ (d : Int) ≤ 9223372036854775807) (hn : n ≤ 1000000000) (hm : m ≤ 1000000000) :
    Calls Try.prog 26 #[.slice a n c, .slice b m d] w (Told (.int .i64 (brOf l l')) w) := by
  have F1 := Lib.hid (specIsFormat_any a n c l w h hn)
  have F2 := Lib.hid (fun (w1 : World) (hb : Below w.heap.size w w1) => specIsFormat_any b m d l' w1 (h'.same hb) hm)
  have K0 := Lib.hid (fun (w1 : World) (hb : Below w.heap.size w w1) => specEqualFormats_any (c := c) (d := d) (h.same hb) (h'.same hb))
  have K1 := Lib.hid (fun (w1 : World) (hb : Below w.heap.size w w1) => specIsWithin_any (c := c) (d := d) (h.same hb) (h'.same hb) hn hm)
  have K3 := Lib.hid (fun (w1 : World) (hb : Below w.heap.size w w1) => specIsWithin_any (c := d) (d := c) (h'.same hb) (h.same hb) hm hn)
  have K2 := Lib.hid (fun (w1 : World) (hb : Below w.heap.size w w1) (hnm : n ≤ m) => specIsWithin_any (c := c) (d := d) (h.same hb) ((h'.take n hnm).same hb) hn hn)
  have hl := Lib.hid h.len
  have hl' := Lib.hid h'.len
  obtain ⟨hmd, hd⟩ := hd
  clear h h'
  cases hA : isFmt l with
  | false =>
    have HQ : Hid (brOf l l' = 4) := Lib.hid (if_pos (by rw [hA]; rfl))
    rw [hA] at F1
    go_enter Try.func26, Try.ntmps26
    go_wp2_with fail
    refine (F1.out).mono ?_
    rintro e w1 ⟨rfl, hb1⟩
    have HB1 := Lib.hid hb1
    clear hb1
    go_wp2_with fail
    go_ret
    exact ⟨by rw [HQ.out]; rfl, HB1.out⟩
  | true =>
    rw [hA] at F1
    cases hA' : isFmt l' with
    | false =>
      have HQ : Hid (brOf l l' = 4) := Lib.hid (if_pos (by rw [hA, hA']; rfl))
      rw [hA'] at F2
      go_enter Try.func26, Try.ntmps26
      go_wp2_with fail
      refine (F1.out).mono ?_
      rintro e w1 ⟨rfl, hb1⟩
      have HB1 := Lib.hid hb1
      clear hb1
      go_wp2_with fail
      refine (F2.out _ HB1.out).mono ?_
      rintro e w2 ⟨rfl, hb2⟩
      have HB2 := Lib.hid (HB1.out.trans (hb2.mono HB1.out.size))
      clear hb2
      go_wp2_with fail
      go_ret
      exact ⟨by rw [HQ.out]; rfl, HB2.out⟩
    | true =>
      rw [hA'] at F2
      have HF : Hid ((isFmt l && isFmt l') = true) := Lib.hid (by rw [hA, hA']; rfl)
      cases h0 : same l l' with
      | true =>
        have HQ : Hid (brOf l l' = 0) := Lib.hid (brOf_at HF.out (j := 0) (by omega) (fun i hi => absurd hi (by omega)) h0)
        rw [h0] at K0
        go_enter Try.func26, Try.ntmps26
        go_wp2_with fail
        refine (F1.out).mono ?_
        rintro e w1 ⟨rfl, hb1⟩
        have HB1 := Lib.hid hb1
        clear hb1
        go_wp2_with fail
        refine (F2.out _ HB1.out).mono ?_
        rintro e w2 ⟨rfl, hb2⟩
        have HB2 := Lib.hid (HB1.out.trans (hb2.mono HB1.out.size))
        clear hb2
        go_wp2_with fail
        refine (K0.out _ HB2.out).mono ?_
        rintro e w3 ⟨rfl, hb3⟩
        have HB3 := Lib.hid (HB2.out.trans (hb3.mono HB2.out.size))
        clear hb3
        go_wp2_with fail
        go_ret
        exact ⟨by rw [HQ.out]; rfl, HB3.out⟩
      | false =>
        have G0 := Lib.hid (below_step (P := fun i => chk l l' i = false) (fun i hi => absurd hi (by omega)) (j := 0) h0)
        rw [h0] at K0
        cases h1 : within l l' with
        | true =>
          have HQ : Hid (brOf l l' = 1) := Lib.hid (brOf_at HF.out (j := 1) (by omega) G0.out h1)
          rw [h1] at K1
          go_enter Try.func26, Try.ntmps26
          go_wp2_with fail
          refine (F1.out).mono ?_
          rintro e w1 ⟨rfl, hb1⟩
          have HB1 := Lib.hid hb1
          clear hb1
          go_wp2_with fail
          refine (F2.out _ HB1.out).mono ?_
          rintro e w2 ⟨rfl, hb2⟩
          have HB2 := Lib.hid (HB1.out.trans (hb2.mono HB1.out.size))
          clear hb2
          go_wp2_with fail
          refine (K0.out _ HB2.out).mono ?_
          rintro e w3 ⟨rfl, hb3⟩
          have HB3 := Lib.hid (HB2.out.trans (hb3.mono HB2.out.size))
          clear hb3
          go_wp2_with fail
          refine (K1.out _ HB3.out).mono ?_
          rintro e w4 ⟨rfl, hb4⟩
          have HB4 := Lib.hid (HB3.out.trans (hb4.mono HB3.out.size))
          clear hb4
          go_wp2_with fail
          go_ret
          exact ⟨by rw [HQ.out]; rfl, HB4.out⟩
        | false =>
          have G1 := Lib.hid (below_step (P := fun i => chk l l' i = false) G0.out (j := 1) h1)
          rw [h1] at K1
          cases h3 : within l' l with
          | true =>
            have h2 : tailOf l l' = false := by
              cases hq : tailOf l l' with
              | false => rfl
              | true => rw [tail_not hq] at h3; cases h3
            have HQ : Hid (brOf l l' = 3) := Lib.hid (brOf_at HF.out (j := 3) (by omega) (below_step (P := fun i => chk l l' i = false) G1.out (j := 2) h2) h3)
            rw [h3] at K3
            go_enter Try.func26, Try.ntmps26
            go_wp2_with fail
            refine (F1.out).mono ?_
            rintro e w1 ⟨rfl, hb1⟩
            have HB1 := Lib.hid hb1
            clear hb1
            go_wp2_with fail
            refine (F2.out _ HB1.out).mono ?_
            rintro e w2 ⟨rfl, hb2⟩
            have HB2 := Lib.hid (HB1.out.trans (hb2.mono HB1.out.size))
            clear hb2
            go_wp2_with fail
            refine (K0.out _ HB2.out).mono ?_
            rintro e w3 ⟨rfl, hb3⟩
            have HB3 := Lib.hid (HB2.out.trans (hb3.mono HB2.out.size))
            clear hb3
            go_wp2_with fail
            refine (K1.out _ HB3.out).mono ?_
            rintro e w4 ⟨rfl, hb4⟩
            have HB4 := Lib.hid (HB3.out.trans (hb4.mono HB3.out.size))
            clear hb4
            go_wp2_with fail
            refine (K3.out _ HB4.out).mono ?_
            rintro e w5 ⟨rfl, hb5⟩
            have HB5 := Lib.hid (HB4.out.trans (hb5.mono HB4.out.size))
            clear hb5
            go_wp2_with fail
            go_ret
            exact ⟨by rw [HQ.out]; rfl, HB5.out⟩
          | false =>
            rw [h3] at K3
            by_cases hlt : n < m
            · have ht : tailOf l l' = within l (l'.take n) := by simp [tailOf, hl.out, hl'.out, hlt]
              cases h2 : within l (l'.take n) with
              | true =>
                have HQ : Hid (brOf l l' = 2) := Lib.hid (brOf_at HF.out (j := 2) (by omega) G1.out (ht.trans h2))
                rw [h2] at K2
                clear ht h2
                go_enter Try.func26, Try.ntmps26
                go_wp2_with fail
                refine (F1.out).mono ?_
                rintro e w1 ⟨rfl, hb1⟩
                have HB1 := Lib.hid hb1
                clear hb1
                go_wp2_with fail
                refine (F2.out _ HB1.out).mono ?_
                rintro e w2 ⟨rfl, hb2⟩
                have HB2 := Lib.hid (HB1.out.trans (hb2.mono HB1.out.size))
                clear hb2
                go_wp2_with fail
                refine (K0.out _ HB2.out).mono ?_
                rintro e w3 ⟨rfl, hb3⟩
                have HB3 := Lib.hid (HB2.out.trans (hb3.mono HB2.out.size))
                clear hb3
                go_wp2_with fail
                refine (K1.out _ HB3.out).mono ?_
                rintro e w4 ⟨rfl, hb4⟩
                have HB4 := Lib.hid (HB3.out.trans (hb4.mono HB3.out.size))
                clear hb4
                go_wp2_with fail
                refine (K3.out _ HB4.out).mono ?_
                rintro e w5 ⟨rfl, hb5⟩
                have HB5 := Lib.hid (HB4.out.trans (hb5.mono HB4.out.size))
                clear hb5
                go_wp2_with fail
                refine (K2.out _ HB5.out (Nat.le_of_lt hlt)).mono ?_
                rintro e w6 ⟨rfl, hb6⟩
                have HB6 := Lib.hid (HB5.out.trans (hb6.mono HB5.out.size))
                clear hb6
                go_wp2_with fail
                go_ret
                exact ⟨by rw [HQ.out]; rfl, HB6.out⟩
              | false =>
                have HQ : Hid (brOf l l' = 4) := Lib.hid (brOf_at HF.out (j := 4) (by omega) (below_step (P := fun i => chk l l' i = false) (below_step (P := fun i => chk l l' i = false) G1.out (j := 2) (ht.trans h2)) (j := 3) h3) rfl)
                rw [h2] at K2
                clear ht h2
                go_enter Try.func26, Try.ntmps26
                go_wp2_with fail
                refine (F1.out).mono ?_
                rintro e w1 ⟨rfl, hb1⟩
                have HB1 := Lib.hid hb1
                clear hb1
                go_wp2_with fail
                refine (F2.out _ HB1.out).mono ?_
                rintro e w2 ⟨rfl, hb2⟩
                have HB2 := Lib.hid (HB1.out.trans (hb2.mono HB1.out.size))
                clear hb2
                go_wp2_with fail
                refine (K0.out _ HB2.out).mono ?_
                rintro e w3 ⟨rfl, hb3⟩
                have HB3 := Lib.hid (HB2.out.trans (hb3.mono HB2.out.size))
                clear hb3
                go_wp2_with fail
                refine (K1.out _ HB3.out).mono ?_
                rintro e w4 ⟨rfl, hb4⟩
                have HB4 := Lib.hid (HB3.out.trans (hb4.mono HB3.out.size))
                clear hb4
                go_wp2_with fail
                refine (K3.out _ HB4.out).mono ?_
                rintro e w5 ⟨rfl, hb5⟩
                have HB5 := Lib.hid (HB4.out.trans (hb5.mono HB4.out.size))
                clear hb5
                go_wp2_with fail
                refine (K2.out _ HB5.out (Nat.le_of_lt hlt)).mono ?_
                rintro e w6 ⟨rfl, hb6⟩
                have HB6 := Lib.hid (HB5.out.trans (hb6.mono HB5.out.size))
                clear hb6
                go_wp2_with fail
                go_ret
                exact ⟨by rw [HQ.out]; rfl, HB6.out⟩
            · have ht : tailOf l l' = false := by simp [tailOf, hl.out, hl'.out, hlt]
              have HQ : Hid (brOf l l' = 4) := Lib.hid (brOf_at HF.out (j := 4) (by omega) (below_step (P := fun i => chk l l' i = false) (below_step (P := fun i => chk l l' i = false) G1.out (j := 2) ht) (j := 3) h3) rfl)
              clear ht
              go_enter Try.func26, Try.ntmps26
              go_wp2_with fail
              refine (F1.out).mono ?_
              rintro e w1 ⟨rfl, hb1⟩
              have HB1 := Lib.hid hb1
              clear hb1
              go_wp2_with fail
              refine (F2.out _ HB1.out).mono ?_
              rintro e w2 ⟨rfl, hb2⟩
              have HB2 := Lib.hid (HB1.out.trans (hb2.mono HB1.out.size))
              clear hb2
              go_wp2_with fail
              refine (K0.out _ HB2.out).mono ?_
              rintro e w3 ⟨rfl, hb3⟩
              have HB3 := Lib.hid (HB2.out.trans (hb3.mono HB2.out.size))
              clear hb3
              go_wp2_with fail
              refine (K1.out _ HB3.out).mono ?_
              rintro e w4 ⟨rfl, hb4⟩
              have HB4 := Lib.hid (HB3.out.trans (hb4.mono HB3.out.size))
              clear hb4
              go_wp2_with fail
              refine (K3.out _ HB4.out).mono ?_
              rintro e w5 ⟨rfl, hb5⟩
              have HB5 := Lib.hid (HB4.out.trans (hb5.mono HB4.out.size))
              clear hb5
              go_wp2_with fail
              go_ret
              exact ⟨by rw [HQ.out]; rfl, HB5.out⟩
end
end Go.Proofs.Ytjkjnhkamieljaa
