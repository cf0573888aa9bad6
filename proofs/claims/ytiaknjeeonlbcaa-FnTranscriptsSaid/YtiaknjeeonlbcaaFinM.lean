/- The hash of a transcript, what each side makes of it, whether it checks out: by the model. -/
import Derived.Test.YtiaknjeeonlbcaaThM
import Derived.Test.YtiaknjeeonlbcaaHash2
namespace Go.Proofs.Ytiaknjeeonlbcaa
open Go.ChangeShapes Go.WideShapes Go.ChangeAt Go.RowKit
set_option linter.unusedVariables false
set_option linter.unusedSimpArgs false

theorem spec_range_any (s : Int) (w : World) : Calls Try.prog 31 #[.int .i64 s, .int .i64 0, .int .i64 1] w fun e w' => e = .returned (.bool (sideB s)) ∧ w = w' := by
  unfold sideB
  by_cases h1 : (0 : Int) ≤ s <;> by_cases h2 : s ≤ 1 <;> (go_enter Try.func31, Try.ntmps31; go_wp2; go_ret; exact ⟨by simp [h1, h2], rfl⟩)
theorem fits_finspec_ {s x : Int} (h0 : 0 ≤ s) (h1 : s ≤ 1) (h2 : 0 ≤ x) (h3 : x < 2147483647) : Fits64 [s, x] := by
  intro z hz
  simp only [List.mem_cons, List.not_mem_nil, or_false] at hz
  rcases hz with rfl | rfl
  · exact fit_mk (by omega) (by omega)
  · exact fit_mk (by omega) (by omega)
set_option maxRecDepth 100000 in
set_option maxHeartbeats 4000000 in
theorem spec_finishOf_any (k s : Int) {a : Option Addr} {n c : Nat} {l : List (List Int)} {w : World} (hR : Rws w a n l) (hlen : ∀ y ∈ l, y.length ≤ 1000000000) :
    Calls Try.prog 13 #[.int .i64 k, .slice a n c, .int .i64 s] w (Told (.int .i64 (finP k l s)) w) := by
  have KK := Lib.hid (specIsValidKey_any k w)
  have KT := Lib.hid (specIsTranscript_any (c := c) hR)
  have HR := Lib.hid hR
  have HL := Lib.hid hlen
  clear hR hlen
  cases hk : keyB k with
  | false =>
    rw [show (decide (1 ≤ k) && decide (k ≤ 2147483646)) = false from hk] at KK
    rw [finP_zero (Or.inl hk)]
    clear hk
    go_enter Try.func13, Try.ntmps13
    go_wp2_with fail
    refine KK.out.mono ?_
    rintro e w1 ⟨rfl, rfl⟩
    go_wp2_with fail
    go_ret
    exact ⟨rfl, Below.refl _ _⟩
  | true =>
    rw [show (decide (1 ≤ k) && decide (k ≤ 2147483646)) = true from hk] at KK
    cases ht : isTr l with
    | false =>
      rw [ht] at KT
      rw [finP_zero (Or.inr (Or.inl ht))]
      clear hk ht
      go_enter Try.func13, Try.ntmps13
      go_wp2_with fail
      refine KK.out.mono ?_
      rintro e w1 ⟨rfl, rfl⟩
      go_wp2_with fail
      refine KT.out.mono ?_
      rintro e w2 ⟨rfl, hb2⟩
      have HB2 := Lib.hid hb2
      clear hb2
      go_wp2_with fail
      go_ret
      exact ⟨rfl, HB2.out⟩
    | true =>
      rw [ht] at KT
      have KS := Lib.hid (fun w0 => spec_range_any s w0)
      cases hs : sideB s with
      | false =>
        rw [finP_zero (Or.inr (Or.inr hs))]
        rw [hs] at KS
        clear hk ht hs
        go_enter Try.func13, Try.ntmps13
        go_wp2_with fail
        refine KK.out.mono ?_
        rintro e w1 ⟨rfl, rfl⟩
        go_wp2_with fail
        refine KT.out.mono ?_
        rintro e w2 ⟨rfl, hb2⟩
        have HB2 := Lib.hid hb2
        clear hb2
        go_wp2_with fail
        refine (KS.out _).mono ?_
        rintro e w3 ⟨rfl, rfl⟩
        go_wp2_with fail
        go_ret
        exact ⟨rfl, HB2.out⟩
      | true =>
        have hkf : Fit64 k := by
          unfold keyB at hk
          rw [Bool.and_eq_true] at hk
          have := of_decide_eq_true hk.1
          have := of_decide_eq_true hk.2
          exact fit_mk (by omega) (by omega)
        have hsf : 0 ≤ s ∧ s ≤ 1 := by
          unfold sideB at hs
          rw [Bool.and_eq_true] at hs
          exact ⟨of_decide_eq_true hs.1, of_decide_eq_true hs.2⟩
        have hb := trH_bd l
        have HF := Lib.hid (fits_finspec_ hsf.1 hsf.2 hb.1 hb.2)
        have HKF := Lib.hid hkf
        rw [finP_some hk ht hs]
        rw [hs] at KS
        have KH := Lib.hid (fun (w0 : World) (h0 : Below w.heap.size w w0) => spec_trHash_any (c := c) (HR.out.same h0) HL.out)
        clear hk ht hs hkf hsf hb
        obtain ⟨x, hx⟩ : ∃ x, trH l = x := ⟨_, rfl⟩
        rw [hx] at HF KH ⊢
        clear hx
        go_enter Try.func13, Try.ntmps13
        go_wp2_with fail
        refine KK.out.mono ?_
        rintro e w1 ⟨rfl, rfl⟩
        go_wp2_with fail
        refine KT.out.mono ?_
        rintro e w2 ⟨rfl, hb2⟩
        have HB2 := Lib.hid hb2
        clear hb2
        go_wp2_with fail
        refine (KS.out _).mono ?_
        rintro e w3 ⟨rfl, rfl⟩
        go_wp2_with fail
        refine (KH.out _ HB2.out).mono ?_
        rintro e w4 ⟨rfl, hb4⟩
        have HB4 := Lib.hid (HB2.out.trans (hb4.mono HB2.out.size))
        have HN := Lib.hid (own_pair w4 s x (Nat.le_refl _)).nums
        clear hb4
        go_wp2_with fail
        refine (specKeyedHash_any k _ 2 2 _ _ HKF.out HN.out (by omega) HF.out).mono ?_
        rintro e w5 ⟨rfl, hb5⟩
        have HB5 := Lib.hid (HB4.out.trans (((alloc_same w4 (.cells #[.int .i64 s, .int .i64 x] 3)).trans (hb5.mono (by simp))).mono HB4.out.size))
        clear hb5
        go_wp2_with fail
        go_ret
        exact ⟨rfl, HB5.out⟩
set_option maxRecDepth 100000 in
set_option maxHeartbeats 4000000 in
theorem spec_checksOut_any (k s f : Int) {a : Option Addr} {n c : Nat} {l : List (List Int)} {w : World} (hR : Rws w a n l) (hlen : ∀ y ∈ l, y.length ≤ 1000000000) :
    Calls Try.prog 14 #[.int .i64 k, .slice a n c, .int .i64 s, .int .i64 f] w (Told (.bool (chkP k l s f)) w) := by
  have K := Lib.hid (spec_finishOf_any k s (c := c) hR hlen)
  clear hR hlen
  unfold chkP
  obtain ⟨x, hx⟩ : ∃ x, finP k l s = x := ⟨_, rfl⟩
  rw [hx] at K ⊢
  clear hx
  cases h0 : f == 0 with
  | true =>
    have hb : (f != 0) = false := by simpa using h0
    obtain rfl : f = 0 := by simpa using h0
    clear h0
    go_enter Try.func14, Try.ntmps14
    go_wp2_with fail
    go_ret
    exact ⟨rfl, Below.refl _ _⟩
  | false =>
    have hb : (f != 0) = true := by simpa using h0
    clear h0
    cases h1 : x == f with
    | true =>
      obtain rfl : x = f := by simpa using h1
      clear h1
      go_enter Try.func14, Try.ntmps14
      go_wp2_with fail
      refine K.out.mono ?_
      rintro e w1 ⟨rfl, hb1⟩
      have HB1 := Lib.hid hb1
      clear hb1
      go_wp2_with fail
      go_ret
      exact ⟨rfl, HB1.out⟩
    | false =>
      have h2 : (f == x) = false := by
        rw [beq_eq_false_iff_ne] at h1 ⊢
        exact fun e => h1 e.symm
      go_enter Try.func14, Try.ntmps14
      go_wp2_with fail
      refine K.out.mono ?_
      rintro e w1 ⟨rfl, hb1⟩
      have HB1 := Lib.hid hb1
      clear hb1
      go_wp2_with fail
      go_ret
      exact ⟨rfl, HB1.out⟩
end Go.Proofs.Ytiaknjeeonlbcaa
