/- The bytes of a message, by the model; the greatest number of bytes of a format, by the model. -/
import Derived.Test.YtpbmmepoddbefaaCode
import Derived.Test.YtpbmmepoddbefaaFitsM
import Derived.Test.YtpbmmepoddbefaaIntT
namespace Go.Proofs.Ytpbmmepoddbefaa
open Go.ChangeShapes Go.WideShapes Go.ChangeAt Go.RowKit
set_option linter.unusedVariables false

theorem mostOf_le (k : Int) : mostOf k ≤ 99 := by
  unfold mostOf
  repeat' split
  all_goals omega
theorem roomF_le {l : List Fd} {j : Nat} {x : Fd} (hok : okTo l l.length) (hx : l[j]? = some x) : 1 ≤ roomF x ∧ roomF x ≤ 100 ∧ 1 ≤ x.max ∧ x.max ≤ 99 := by
  have h := hok j x (lt_of_some hx) hx
  unfold fieldOk at h
  rw [Bool.and_eq_true, decide_eq_true_eq] at h
  have h1 := h.1
  have h2 := mostOf_le x.kind
  by_cases hk : x.kind = 1
  · rw [roomF_num hk]
    omega
  · rw [roomF_more hk]
    omega
theorem longTo_le {l : List Fd} (hok : okTo l l.length) : ∀ j, j ≤ l.length → 0 ≤ longTo l j ∧ longTo l j ≤ 100 * j
  | 0, _ => by simp [longTo]
  | j + 1, hj => by
    obtain ⟨x, hx⟩ : ∃ x, l[j]? = some x := ⟨_, List.getElem?_eq_getElem (by omega)⟩
    have h1 := roomF_le hok hx
    have h2 := longTo_le hok j (by omega)
    rw [longTo_step hx]
    omega
theorem codeTo_few {l : List Fd} {v : List Vl} (hf : fitsFmt l v = true) (j : Nat) (hj : j ≤ l.length) : (codeTo l v j).length ≤ 600 := by
  obtain ⟨h1, h2, h3⟩ := fitsFmt_parts hf
  have h4 := (isFmt_iff.1 h1)
  have h5 := codeTo_long h4.2 h2 h3 j hj
  have h6 := longTo_le h4.2 j hj
  have := h4.1
  omega
/-- What is written for a list of values. -/
noncomputable def encOf (l : List Fd) (v : List Vl) : List Int := if fitsFmt l v = true then codeOf l v else []
theorem encOf_yes {l : List Fd} {v : List Vl} (h : fitsFmt l v = true) : encOf l v = codeOf l v := if_pos h
theorem encOf_no {l : List Fd} {v : List Vl} (h : fitsFmt l v = false) : encOf l v = [] := if_neg (by rw [h]; decide)
theorem encOf_few (l : List Fd) (v : List Vl) : (encOf l v).length ≤ 600 := by
  cases h : fitsFmt l v with
  | false => rw [encOf_no h]; simp
  | true => rw [encOf_yes h]; exact codeTo_few h _ (Nat.le_refl _)
/-- What a function leaves that writes a message. -/
def EncTold (tI : TypeId) (l : List Fd) (v : List Vl) (w : World) (e : Ending) (w' : World) : Prop :=
  ∃ a n c, e = .returned (.tuple #[.slice a n c, .bool (fitsFmt l v)]) ∧ Own .i64 tI w' w.heap.size a n c (encOf l v) ∧ Below w.heap.size w w'

set_option maxHeartbeats 4000000 in
set_option maxRecDepth 100000 in
theorem specEncodeMessage_any (a : Option Addr) (n c : Nat) (l : List Fd) (b : Option Addr) (m d : Nat) (v : List Vl) (w : World) (h : Fds w a n l) (hv : Vals w b m v) (hn : n ≤ 1000000000) (hm : m ≤ 1000000000) :
    Calls Try.prog 64 #[.slice a n c, .slice b m d] w (EncTold 3 l v w) := by
  have H := Lib.hid h
  have HV := Lib.hid hv
  have hl := Lib.hid h.len
  have hvl := Lib.hid hv.len
  have KF := Lib.hid (fun (w0 : World) (hb : Below w.heap.size w w0) => specFitsFormat_any a n c l b m d v w0 (h.same hb) (hv.same hb) hn hm)
  have KT := Lib.hid (fun (i : Int) (w0 : World) (hb : Below w.heap.size w w0) => specIsThere_any a n c l b m d v i w0 (h.same hb) (hv.same hb) hn hm)
  obtain ⟨i0, hi, hz0, hz1, hz2⟩ := info_parts infoIntS
  have HI := Lib.hid (And.intro hi (And.intro hz0 (And.intro hz1 hz2)))
  clear h hv hi hz0 hz1 hz2
  have HB0 : Hid (Below w.heap.size w (w.alloc (.cells #[] 3))) := Lib.hid (alloc_same _ _)
  have HO0 : Hid (Own .i64 3 (w.alloc (.cells #[] 3)) w.heap.size (some ⟨w.heap.size, 0, none⟩) 0 0 []) := Lib.hid (Own.empty (Nat.le_refl _))
  cases hf : fitsFmt l v with
  | false =>
    have HE := Lib.hid (encOf_no hf)
    have HF := Lib.hid hf
    rw [hf] at KF
    clear hf
    go_enter Try.func64, Try.ntmps64
    go_wp2_with fail
    refine (KF.out _ HB0.out).mono ?_
    rintro e w1 ⟨rfl, hb1⟩
    have HB1 := Lib.hid (HB0.out.trans (hb1.mono HB0.out.size))
    have HO1 := Lib.hid (HO0.out.same hb1)
    clear hb1
    go_wp2_with fail
    go_ret2
    exact ⟨_, _, _, by rw [HF.out]; rfl, by rw [HE.out]; exact HO1.out, HB1.out⟩
  | true =>
    have HE := Lib.hid (encOf_yes hf)
    have HF := Lib.hid hf
    have HFEW := Lib.hid (codeTo_few hf)
    have hvn : m = n := by have := (fitsFmt_parts hf).2.1; rw [hl.out, hvl.out] at this; exact this
    subst hvn
    rw [hf] at KF
    clear hf
    go_enter Try.func64, Try.ntmps64
    go_wp2_with fail
    refine (KF.out _ HB0.out).mono ?_
    rintro e w1 ⟨rfl, hb1⟩
    have HB1 := Lib.hid (HB0.out.trans (hb1.mono HB0.out.size))
    have HO1 := Lib.hid (HO0.out.same hb1)
    clear hb1
    go_wp2_with fail
    go_loopw [6, 7] (fun s i wr => ∃ (a' : Option Addr) (n' c' j : Nat), s = .slice a' n' c' ∧ i = .int .i64 j ∧ j ≤ m ∧ Own .i64 3 wr w.heap.size a' n' c' (codeTo l v j) ∧ Below w.heap.size w wr) (fun _ i _ => m - (intOf i).toNat)
    case atStart => exact ⟨_, _, _, 0, rfl, rfl, Nat.zero_le _, HO1.out, HB1.out⟩
    case round =>
      obtain ⟨a', n', c', j, rfl, rfl, hj, ho, hb⟩ := hrel
      have HO := Lib.hid ho
      have HB := Lib.hid hb
      have hfew := HFEW.out j (by rw [hl.out]; exact hj)
      have hn' : n' ≤ 600 := by rw [← ho.len]; exact hfew
      clear ho hb hfew
      by_cases hlt : j < m
      · obtain ⟨bb, o, ⟨xk, xm, xt, xi⟩, rfl, hx, hc0, hc1, hc2, hc3⟩ := fds_at H.out hlt
        obtain ⟨b2, o2, p2, m2, d2, yk, yl, rfl, hy, hd0, hd1, hN, hr⟩ := HV.out.at_ hlt
        dsimp only at hc0
        clear hc1 hc2 hc3
        have KTJ := KT.out j wr HB.out
        cases ht : isThere l v j with
        | false =>
          have HS := Lib.hid (codeTo_no ht)
          rw [ht] at KTJ
          clear ht hx hy hc0 hd0 hd1 hN
          go_wp2_with fail
          refine KTJ.mono ?_
          rintro e w2 ⟨rfl, hb2⟩
          have HB2 := Lib.hid (HB.out.trans (hb2.mono HB.out.size))
          have HO2 := Lib.hid (HO.out.same hb2)
          clear hb2 KTJ
          go_wp2_with fail
          go_roundw
          case rel => exact ⟨_, _, _, j + 1, rfl, by go_num, by omega, by rw [HS.out]; exact HO2.out, HB2.out⟩
          case measure => simp [intOf]; omega
        | true =>
          have hstep := codeTo_yes hx hy ht
          have hfew2 := HFEW.out (j + 1) (by rw [hl.out]; exact hlt)
          rw [ht] at KTJ
          have C0 := Lib.hid hc0
          have D0 := Lib.hid hd0
          have D1 := Lib.hid hd1
          have HN := Lib.hid hN
          have hql := hN.len
          clear ht hx hy hc0 hd0 hd1 hN
          by_cases hk : xk = 1
          · have b1 : (xk == 1) = true := by simpa using hk
            have HS : Hid (codeTo l v (j + 1) = codeTo l v j ++ [yk]) := Lib.hid (by rw [hstep]; unfold codeV; rw [if_pos hk])
            clear hstep hfew2 hk
            go_wp2_with fail
            refine KTJ.mono ?_
            rintro e w2 ⟨rfl, hb2⟩
            have HB2 := Lib.hid (HB.out.trans (hb2.mono HB.out.size))
            have HO2 := Lib.hid (HO.out.same hb2)
            have c0 := cell_stay C0.out HB2.out
            have d0 := cell_stay D0.out HB2.out
            clear hb2 KTJ
            go_wp2_with (at_builtin; refine wpl_app _ rfl (.tmp 49) (.tmp 55) 29 rfl .i64 3 i0 (.int .i64 0) 8 Try.underlying29 HI.out.1 HI.out.2.1 HI.out.2.2.1 HI.out.2.2.2 rfl rfl (HO2.out.alloc _) rfl (nums_new _ _ _ _) (by omega) ?c1 ?c2 ?_)
            case c1 => omega
            case c2 => have := HB2.out.size; simp; omega
            intro a3 c3 w3 ho3 hb3
            have HO3 := Lib.hid ho3
            have HB3 := Lib.hid (HB2.out.trans (((alloc_same _ _).mono HB2.out.size).trans hb3))
            clear ho3 hb3 c0 d0
            go_wp2_with fail
            go_roundw
            case rel => exact ⟨_, _, _, j + 1, rfl, by go_num, by omega, by rw [HS.out]; exact HO3.out, HB3.out⟩
            case measure => simp [intOf]; omega
          · have b1 : (xk == 1) = false := by simpa using hk
            have hcv : codeV ⟨xk, xm, xt, xi⟩ ⟨yk, yl⟩ = (m2 : Int) :: yl := by unfold codeV; rw [if_neg hk]; dsimp only; rw [hql]
            rw [hcv] at hstep
            have HS : Hid (codeTo l v (j + 1) = codeTo l v j ++ (m2 : Int) :: yl) := Lib.hid hstep
            have hm2 : m2 ≤ 600 := by rw [hstep] at hfew2; simp only [List.length_append, List.length_cons] at hfew2; omega
            clear hstep hfew2 hk hcv
            go_wp2_with fail
            refine KTJ.mono ?_
            rintro e w2 ⟨rfl, hb2⟩
            have HB2 := Lib.hid (HB.out.trans (hb2.mono HB.out.size))
            have HO2 := Lib.hid (HO.out.same hb2)
            have c0 := cell_stay C0.out HB2.out
            have d1 := cell_stay D1.out HB2.out
            clear hb2 KTJ
            go_wp2_with (at_builtin; refine wpl_app _ rfl (.tmp 20) (.tmp 27) 29 rfl .i64 3 i0 (.int .i64 0) 8 Try.underlying29 HI.out.1 HI.out.2.1 HI.out.2.2.1 HI.out.2.2.2 rfl rfl (HO2.out.alloc _) rfl (nums_new _ _ _ _) (by omega) ?c1 ?c2 ?_)
            case c1 => omega
            case c2 => have := HB2.out.size; simp; omega
            intro a3 c3 w3 ho3 hb3
            have HO3 := Lib.hid ho3
            have HB3 := Lib.hid (HB2.out.trans (((alloc_same _ _).mono HB2.out.size).trans hb3))
            have HN3 := Lib.hid (HN.out.same HB3.out)
            clear ho3 hb3 c0 d1
            have d1 := cell_stay D1.out HB3.out
            go_wp2_with (at_builtin; refine wpl_app _ rfl (.tmp 29) (.tmp 34) 29 rfl .i64 3 i0 (.int .i64 0) 8 Try.underlying29 HI.out.1 HI.out.2.1 HI.out.2.2.1 HI.out.2.2.2 rfl rfl HO3.out rfl HN3.out (by omega) ?c3 ?c4 ?_)
            case c3 => omega
            case c4 => exact HB3.out.size
            intro a4 c4 w4 ho4 hb4
            have HO4 := Lib.hid ho4
            have HB4 := Lib.hid (HB3.out.trans hb4)
            clear ho4 hb4 d1
            go_wp2_with fail
            go_roundw
            case rel => exact ⟨_, _, _, j + 1, rfl, by go_num, by omega, by rw [HS.out]; simpa using HO4.out, HB4.out⟩
            case measure => simp [intOf]; omega
      · obtain rfl : j = m := by omega
        go_wp2_with fail
        go_ret2
        refine ⟨_, _, _, by rw [HF.out]; rfl, ?_, HB.out⟩
        rw [HE.out]
        unfold codeOf
        rw [hl.out]
        exact HO.out
/-- What a function leaves that tells a message's length. -/
noncomputable def lenOf (l : List Fd) (v : List Vl) : Int := if fitsFmt l v = true then ((encOf l v).length : Int) else -1
end Go.Proofs.Ytpbmmepoddbefaa
