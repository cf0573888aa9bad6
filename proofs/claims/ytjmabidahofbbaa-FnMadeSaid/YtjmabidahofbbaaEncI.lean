/- The bytes of a message, a message's length, the greatest length of a format's messages: by the program. -/
import Derived.Test.YtjmabidahofbbaaWrI
namespace Go.Proofs.Ytjmabidahofbbaa
open Go.ChangeShapes Go.WideShapes Go.ChangeAt Go.RowKit
set_option linter.unusedVariables false

set_option maxHeartbeats 4000000 in
set_option maxRecDepth 100000 in
theorem encodeMessage_any (a : Option Addr) (n c : Nat) (l : List Fd) (b : Option Addr) (m d : Nat) (v : List Vl) (w : World) (h : Fds w a n l) (hv : Vals w b m v) (hc : n ≤ c ∧ (c : Int) ≤ 9223372036854775807) (hn : n ≤ 1000000000) (hm : m ≤ 1000000000) :
    Calls Try.prog 54 #[.slice a n c, .slice b m d] w (EncTold 3 l v w) := by
  have H := Lib.hid h
  have HV := Lib.hid hv
  have hl := Lib.hid h.len
  have hvl := Lib.hid hv.len
  have KF := Lib.hid (fun (w0 : World) (hb : Below w.heap.size w w0) => fitsFormat_any a n c l b m d v w0 (h.same hb) (hv.same hb) hc hn hm)
  have KT := Lib.hid (fun (i : Int) (w0 : World) (hb : Below w.heap.size w w0) => isThere_any a n c l b m d v i w0 (h.same hb) (hv.same hb) hn hm)
  clear h hv
  have HB0 : Hid (Below w.heap.size w (w.alloc (.cells #[] 3))) := Lib.hid (alloc_same _ _)
  have HO0 : Hid (Own .i64 3 (w.alloc (.cells #[] 3)) w.heap.size (some ⟨w.heap.size, 0, none⟩) 0 0 []) := Lib.hid (Own.empty (Nat.le_refl _))
  cases hf : fitsFmt l v with
  | false =>
    have HE := Lib.hid (encOf_no hf)
    have HF := Lib.hid hf
    rw [hf] at KF
    clear hf
    go_enter Try.func54, Try.ntmps54
    go_wp2_with fail
    refine (KF.out _ HB0.out).mono ?_
    rintro e w1 ⟨rfl, hb1⟩
    have HB1 := Lib.hid (HB0.out.trans (hb1.mono HB0.out.size))
    have HO1 := Lib.hid (HO0.out.same hb1)
    clear hb1
    go_wp2_with fail
    go_ret2
    exact ⟨_, _, _, by rw [HF.out]; rfl, by rw [HE.out]; exact HO1.out, HB1.out⟩
  | true =>
    have HE := Lib.hid (encOf_yes hf)
    have HF := Lib.hid hf
    have HFEW := Lib.hid (codeTo_few hf)
    have HOK := Lib.hid (isFmt_iff.1 (fitsFmt_parts hf).1).2
    have hvn : m = n := by have := (fitsFmt_parts hf).2.1; rw [hl.out, hvl.out] at this; exact this
    subst hvn
    rw [hf] at KF
    clear hf
    go_enter Try.func54, Try.ntmps54
    go_wp2_with fail
    refine (KF.out _ HB0.out).mono ?_
    rintro e w1 ⟨rfl, hb1⟩
    have HB1 := Lib.hid (HB0.out.trans (hb1.mono HB0.out.size))
    have HO1 := Lib.hid (HO0.out.same hb1)
    clear hb1
    go_wp2_with fail
    go_loopw [6, 17] (fun s i wr => ∃ (a' : Option Addr) (n' c' j : Nat), s = .slice a' n' c' ∧ i = .int .i64 j ∧ j ≤ m ∧ Own .i64 3 wr w.heap.size a' n' c' (codeTo l v j) ∧ Below w.heap.size w wr) (fun _ i _ => m - (intOf i).toNat)
    case atStart => exact ⟨_, _, _, 0, rfl, rfl, Nat.zero_le _, HO1.out, HB1.out⟩
    case round =>
      obtain ⟨a', n', c', j, rfl, rfl, hj, ho, hb⟩ := hrel
      have HO := Lib.hid ho
      have HB := Lib.hid hb
      have hfew := HFEW.out j (by rw [hl.out]; exact hj)
      have hn' : n' ≤ 600 := by rw [← ho.len]; exact hfew
      clear ho hb hfew
      by_cases hlt : j < m
      · have hltI : (j : Int) < (m : Int) := by omega
        obtain ⟨bb, o, ⟨xk, xm, xt, xi⟩, rfl, hx, hc0, hc1, hc2, hc3⟩ := fds_at (H.out.same HB.out) hlt
        obtain ⟨b2, o2, p2, m2, d2, yk, yl, rfl, hy, hd0, hd1, hN, hr⟩ := HV.out.at_ hlt
        dsimp only at hc0 hc1 hc2 hc3
        have HXW : Hid (Below wr.heap.size wr (wr.alloc (.cells #[.int .i64 xk, .int .i64 xm, .int .i64 xt, .int .i64 xi] 70))) := Lib.hid (alloc_same _ _)
        have HXC : Hid ((wr.alloc (.cells #[.int .i64 xk, .int .i64 xm, .int .i64 xt, .int .i64 xi] 70)).cell? ⟨wr.heap.size, 0, none⟩ = some (.int .i64 xk)) := Lib.hid (by simp)
        have HXB := Lib.hid (HB.out.trans (HXW.out.mono HB.out.size))
        have KTJ := KT.out j _ HXB.out
        cases ht : isThere l v j with
        | false =>
          have HS := Lib.hid (codeTo_no ht)
          rw [ht] at KTJ
          clear ht hx hy hd0 hd1 hN
          go_wp2_with fail
          clear hc0 hc1 hc2 hc3
          refine KTJ.mono ?_
          rintro e w2 ⟨rfl, hb2⟩
          have HB2 := Lib.hid (HXB.out.trans (hb2.mono HXB.out.size))
          have HO2 := Lib.hid ((HO.out.same HXW.out).same hb2)
          clear hb2 KTJ
          go_wp2_with fail
          go_roundw
          case rel => exact ⟨_, _, _, j + 1, rfl, by go_num, by omega, by rw [HS.out]; exact HO2.out, HB2.out⟩
          case measure => simp [intOf]; omega
        | true =>
          have hstep := codeTo_yes hx hy ht
          have hfew2 := HFEW.out (j + 1) (by rw [hl.out]; exact hlt)
          rw [ht] at KTJ
          have D0 := Lib.hid hd0
          have D1 := Lib.hid hd1
          have HN := Lib.hid hN
          have HOA := Lib.hid (own_off (n := n') (c := c') HO.out.span (Nat.le_refl _))
          have HOD := Lib.hid (own_away (n := n') (c := c') HO.out.span (cell_in hd0))
          have hql := hN.len
          have HKIND := Lib.hid (kind_in HOK.out (by rw [hl.out]; exact hlt) hx)
          clear ht hx hy hd0 hd1 hN
          by_cases hk : xk = 1
          · subst hk
            have HS : Hid (codeTo l v (j + 1) = codeTo l v j ++ [yk]) := Lib.hid (by rw [hstep]; rfl)
            clear hstep hfew2 hql HKIND
            go_wp2_with fail
            clear hc0 hc1 hc2 hc3
            refine KTJ.mono ?_
            rintro e w2 ⟨rfl, hb2⟩
            have HB2 := Lib.hid (HXB.out.trans (hb2.mono HXB.out.size))
            have HO2 := Lib.hid ((HO.out.same HXW.out).same hb2)
            have HC2 := Lib.hid (cell_stay HXC.out hb2)
            have hd0 := cell_stay D0.out HB2.out
            have hd1 := cell_stay D1.out HB2.out
            clear hb2 KTJ
            go_wp2_with fail
            have F0 := numCode_write
            go_region_held3 (fun w' => w'.cell? ⟨wr.heap.size, 0, none⟩ = some (.int .i64 1) ∧ w'.cell? ⟨b2, o2 + j * 2, none⟩ = some (.int .i64 yk) ∧ w'.cell? ⟨b2, o2 + j * 2 + 1, none⟩ = some (.slice p2 m2 d2)) (first | exact ⟨cell_kept HC2.out HQ3.out, cell_kept D0.out HB3.out, cell_kept D1.out HB3.out⟩ | exact HX4.out | exact ⟨cell_kept HC2.out (Below.refl _ _).drew, cell_kept D0.out HB2.out.drew, cell_kept D1.out HB2.out.drew⟩) ((first | (go_at_call 82; refine (codeOf_num _).mono ?_; rintro e w3 ⟨rfl, hb3⟩; unfold numCode; have HQ3 : Hid (Below w2.heap.size w2 w3) := Lib.hid (by first | exact hb3 | exact (Below.refl _ _).drew.trans hb3); have HB3 := Lib.hid (HB2.out.trans (HQ3.out.mono HB2.out.size)); have HO3 := Lib.hid (HO2.out.same HQ3.out); clear hb3) | (go_at_call 104; refine (writeNum_any w.heap.size _ _ _ _ _ _ _ _ _ HO3.out HB3.out.size (by omega)).mono ?_; rintro e w4 ⟨a4, n4, c4, rfl, ho4, hg4⟩; have HO4 := Lib.hid ho4; have HB4 := Lib.hid (grown_to hg4 HB3.out HO3.out.span (Nat.le_refl _) HB3.out.size); have HX4 := Lib.hid (And.intro (cell_off (cell_kept HC2.out HQ3.out) hg4 HOA.out) (And.intro (cell_off (cell_kept D0.out HB3.out) hg4 HOD.out) (cell_off (cell_kept D1.out HB3.out) hg4 HOD.out))); clear ho4 hg4)))
            go_wp2_with fail
            go_roundw
            case rel => exact ⟨_, _, _, j + 1, rfl, by go_num, by omega, by rw [HS.out]; exact HO4.out, HB4.out⟩
            case measure => simp [intOf]; omega
          · have hcv : codeV ⟨xk, xm, xt, xi⟩ ⟨yk, yl⟩ = (m2 : Int) :: yl := by unfold codeV; rw [if_neg hk]; dsimp only; rw [hql]
            rw [hcv] at hstep
            have HS : Hid (codeTo l v (j + 1) = codeTo l v j ++ (m2 : Int) :: yl) := Lib.hid hstep
            have hm2 : m2 ≤ 600 := by rw [hstep] at hfew2; simp only [List.length_append, List.length_cons] at hfew2; omega
            have HK2 : Hid (xk = 2 ∨ xk = 3) := Lib.hid (by rcases HKIND.out with e | e | e; exact absurd e hk; exact Or.inl e; exact Or.inr e)
            clear hstep hfew2 hql HKIND hcv hk
            go_wp2_with fail
            clear hc0 hc1 hc2 hc3
            refine KTJ.mono ?_
            rintro e w2 ⟨rfl, hb2⟩
            have HB2 := Lib.hid (HXB.out.trans (hb2.mono HXB.out.size))
            have HO2 := Lib.hid ((HO.out.same HXW.out).same hb2)
            have HC2 := Lib.hid (cell_stay HXC.out hb2)
            have hd0 := cell_stay D0.out HB2.out
            have hd1 := cell_stay D1.out HB2.out
            clear hb2 KTJ
            go_wp2_with fail
            have F0 := itemsCode_write
            go_region_held3 (fun w' => w'.cell? ⟨wr.heap.size, 0, none⟩ = some (.int .i64 xk) ∧ w'.cell? ⟨b2, o2 + j * 2, none⟩ = some (.int .i64 yk) ∧ w'.cell? ⟨b2, o2 + j * 2 + 1, none⟩ = some (.slice p2 m2 d2)) (first | exact ⟨cell_kept HC2.out HQ3.out, cell_kept D0.out HB3.out, cell_kept D1.out HB3.out⟩ | exact HX4.out | exact ⟨cell_kept HC2.out (Below.refl _ _).drew, cell_kept D0.out HB2.out.drew, cell_kept D1.out HB2.out.drew⟩) ((first | (go_at_call 82; refine (codeOf_more HK2.out _).mono ?_; rintro e w3 ⟨rfl, hb3⟩; unfold itemsCode; have HQ3 : Hid (Below w2.heap.size w2 w3) := Lib.hid (by first | exact hb3 | exact (Below.refl _ _).drew.trans hb3); have HB3 := Lib.hid (HB2.out.trans (HQ3.out.mono HB2.out.size)); have HO3 := Lib.hid (HO2.out.same HQ3.out); clear hb3) | (go_at_call 101; refine (writeItems_any w.heap.size _ _ _ _ _ _ _ _ _ _ HO3.out (fun w0 hb0 => HN.out.same (HB3.out.trans hb0)) HB3.out.size (by omega) (by omega)).mono ?_; rintro e w4 ⟨a4, n4, c4, rfl, ho4, hg4⟩; have HO4 := Lib.hid ho4; have HB4 := Lib.hid (grown_to hg4 HB3.out HO3.out.span (Nat.le_refl _) HB3.out.size); have HX4 := Lib.hid (And.intro (cell_off (cell_kept HC2.out HQ3.out) hg4 HOA.out) (And.intro (cell_off (cell_kept D0.out HB3.out) hg4 HOD.out) (cell_off (cell_kept D1.out HB3.out) hg4 HOD.out))); clear ho4 hg4)))
            go_wp2_with fail
            go_roundw
            case rel => exact ⟨_, _, _, j + 1, rfl, by go_num, by omega, by rw [HS.out]; exact HO4.out, HB4.out⟩
            case measure => simp [intOf]; omega
      · obtain rfl : j = m := by omega
        go_wp2_with fail
        go_ret2
        refine ⟨_, _, _, by rw [HF.out]; rfl, ?_, HB.out⟩
        rw [HE.out]
        unfold codeOf
        rw [hl.out]
        exact HO.out
end Go.Proofs.Ytjmabidahofbbaa
