/- For every input of bytes: a message that is drawn is read as it was written, also where more bytes follow; what does not fit is not written; and whatever is read of drawn bytes was written so. -/
import Derived.Test.YtpbdfbpcjeajbaaDr
import Derived.Test.YtpbdfbpcjeajbaaDrBig
import Derived.Test.YtpbdfbpcjeajbaaDrC
import Derived.Test.YtpbdfbpcjeajbaaCodeL
import Derived.Test.YtpbdfbpcjeajbaaEncI
import Derived.Test.YtpbdfbpcjeajbaaRpI
import Derived.Test.YtpbdfbpcjeajbaaEqVF
import Derived.Test.YtpbdfbpcjeajbaaEqIP
import Derived.Test.YtpbdfbpcjeajbaaOpen
import Derived.Test.YtpbdfbpcjeajbaaOpenV
import Derived.WalkKit
import Derived.Deep.RegionHeld3
import Derived.ProofKit
import Derived.OpenShut
namespace Go.Proofs.Ytpbdfbpcjeajbaa.fnCodes
open Go.ChangeShapes Go.WideShapes Go.ChangeAt Go.RowKit Go.Lib
open Go.ChangeMaps (open_string shut_string)
set_option linter.unusedVariables false

theorem own : ownKnob Try.prog.godebug = none := by kernel_rfl
theorem nums_two (w : World) (x y : Int) (t : TypeId) : Nums .i64 (w.alloc (.cells #[.int .i64 x, .int .i64 y] t)) (some ⟨w.heap.size, 0, none⟩) 2 [x, y] :=
  ⟨rfl, by omega, fun j hj => ⟨_, rfl, by
    have h := heap_alloc_new w (.cells #[.int .i64 x, .int .i64 y] t (0, 0))
    rw [addr_zero]
    match j, hj with
    | 0, _ => exact (block_cell h 0).trans rfl
    | 1, _ => exact (block_cell h 1).trans rfl⟩⟩

set_option maxHeartbeats 40000000 in
set_option maxRecDepth 100000 in
theorem walk (a0 : Option Addr) (n0 c0 : Nat) (l0 : List Int) (w : World) (K0 : Nums .u8 w a0 n0 l0) (F0 : ∀ x ∈ l0, (Lit.int .u8 x).wf = true) (R0 : n0 ≤ c0 ∧ (c0 : Int) ≤ 9223372036854775807) :
    Calls Try.prog 3 #[.slice a0 n0 c0] w fun e w' => e = .returned (.bool true) ∧ Below w.heap.size w w' := by
  have HK := Lib.hid K0
  have HF := Lib.hid (bs_of_wf F0)
  have hfit := K0.fits
  clear K0 F0 R0
  obtain ⟨i0, hi, hz0, hz1, hz2⟩ := info_parts infoIntS
  have HI := Lib.hid (And.intro hi (And.intro hz0 (And.intro hz1 hz2)))
  clear hi hz0 hz1 hz2
  by_cases hbig : 1048576 < n0
  · go_enter Try.func3, Try.ntmps3
    go_wp2_with fail
    refine (big_yes a0 n0 c0 hfit hbig _).mono ?_
    rintro e w1 ⟨rfl, rfl⟩
    go_wp2_with fail
    go_ret
    exact ⟨rfl, Below.refl _ _⟩
  · have HC := Lib.hid (code_of HK.out HF.out)
    go_enter Try.func3, Try.ntmps3
    go_wp2_with fail
    refine (big_no a0 n0 c0 hfit hbig _).mono ?_
    rintro e w1 ⟨rfl, rfl⟩
    go_wp2_with fail
    refine (drawEncodeMessage_any a0 n0 c0 _ HC.out).mono ?_
    rintro e w1 ⟨f, fn, fc, l, ao, m, co, v, rfl, hf1, hr1, hfn, hv1, hm6, hb1⟩
    have HFL := Lib.hid hf1
    have HVL := Lib.hid hv1
    have HR := Lib.hid hr1
    have HB := Lib.hid hb1
    clear hf1 hv1 hr1 hb1
    have KE := encodeMessage_any f fn fc l ao m co v w1 HFL.out HVL.out HR.out (by omega) (by omega)
    unfold EncTold at KE
    have KF := Lib.hid (fun w0 hb => fitsFormat_any f fn fc l ao m co v w0 (HFL.out.same hb) (HVL.out.same hb) HR.out (by omega) (by omega))
    have KS := Lib.hid (fun w0 hb => specFitsFormat_any f fn fc l ao m co v w0 (HFL.out.same hb) (HVL.out.same hb) (by omega) (by omega))
    cases hfit2 : fitsFmt l v with
    | false =>
      have he := encOf_no hfit2
      rw [hfit2] at KE KF KS
      clear hfit2 he
      go_wp2_with fail
      refine KE.mono ?_
      rintro e w2 ⟨a1, n1, c1, rfl, ho, hb2⟩
      replace HB := Lib.hid (HB.out.trans (hb2.mono HB.out.size))
      have HB2 := Lib.hid hb2
      clear ho hb2
      go_wp2_with fail
      refine (KF.out _ HB2.out).mono ?_
      rintro e w3 ⟨rfl, hb3⟩
      replace HB := Lib.hid (HB.out.trans (hb3.mono HB.out.size))
      have HB3 := Lib.hid (HB2.out.trans (hb3.mono HB2.out.size))
      clear hb3
      go_wp2_with fail
      refine (KS.out _ HB3.out).mono ?_
      rintro e w4 ⟨rfl, hb4⟩
      replace HB := Lib.hid (HB.out.trans (hb4.mono HB.out.size))
      clear hb4 KF KS
      go_wp2_with fail
      refine (drawDecodeMessage_any a0 n0 c0 _ (HC.out.same HB.out)).mono ?_
      rintro e y1 ⟨f2, fn2, fc2, l2, a2, m2, c2, z, rfl, hf2, hr2, hfn2, hz2, hrz2, hm2, hy1⟩
      replace HB := Lib.hid (HB.out.trans (hy1.mono HB.out.size))
      have HF2 := Lib.hid hf2
      have HR2 := Lib.hid hr2
      have HZ2 := Lib.hid hz2
      have HRZ2 := Lib.hid hrz2
      clear hf2 hr2 hz2 hrz2 hy1
      have KD := decodeMessage_any f2 fn2 fc2 l2 a2 m2 c2 z y1 HF2.out HZ2.out HR2.out HRZ2.out (by omega) (by omega)
      unfold DmTold at KD
      cases hd : dmOk l2 z with
      | false =>
        have hv := dm_not hd
        rw [hd, hv] at KD
        clear hd hv
        go_wp2_with fail
        refine KD.mono ?_
        rintro e y2 ⟨a3, n3, c3, rfl, ho, hy2⟩
        have hn3 : n3 = 0 := by rw [← ho.len]; rfl
        subst hn3
        replace HB := Lib.hid (HB.out.trans (hy2.mono HB.out.size))
        clear ho hy2
        go_wp2_with fail
        go_ret
        exact ⟨rfl, HB.out⟩
      | true =>
        obtain ⟨hq1, hq2⟩ := dm_form hd
        rw [hd] at KD
        have HQ1 := Lib.hid hq1
        have HQ2 := Lib.hid hq2
        clear hd hq1 hq2
        go_wp2_with fail
        refine KD.mono ?_
        rintro e y2 ⟨a3, n3, c3, rfl, ho, hy2⟩
        replace HB := Lib.hid (HB.out.trans (hy2.mono HB.out.size))
        replace HF2 := Lib.hid (HF2.out.same hy2)
        replace HZ2 := Lib.hid (HZ2.out.same hy2)
        have hn3 : n3 ≤ 6 := by rw [← ho.len]; exact (dmV_few l2 z).1
        have HO := Lib.hid ho.vals
        clear ho hy2
        have KE := encodeMessage_any f2 fn2 fc2 l2 a3 n3 c3 (dmV l2 z) y2 HF2.out HO.out HR2.out (by omega) (by omega)
        unfold EncTold at KE
        rw [HQ1.out, HQ2.out] at KE
        go_wp2_with fail
        refine KE.mono ?_
        rintro e y3 ⟨a4, n4, c4, rfl, ho, hy3⟩
        replace HB := Lib.hid (HB.out.trans (hy3.mono HB.out.size))
        replace HZ2 := Lib.hid (HZ2.out.same hy3)
        have HO4 := Lib.hid ho.nums
        clear ho hy3 KE
        go_wp2_with fail
        refine (equalInts_yes (c := c2) (d := c4) HZ2.out HO4.out).mono ?_
        rintro e y4 ⟨rfl, hy4⟩
        replace HB := Lib.hid (HB.out.trans (hy4.mono HB.out.size))
        clear hy4
        go_wp2_with fail
        go_ret
        exact ⟨rfl, HB.out⟩
    | true =>
      obtain ⟨hd1, hd2⟩ := dm_code hfit2
      obtain ⟨hp1, hp2⟩ := rp_code hfit2 [1, 2]
      have hlo := long_code hfit2
      have hle := len_code hfit2
      have hfew := encOf_few l v
      obtain ⟨y, hy⟩ : ∃ y, y = encOf l v := ⟨_, rfl⟩
      obtain ⟨lg, hlg⟩ : ∃ lg, lg = longOf l := ⟨_, rfl⟩
      have KL := Lib.hid (fun w0 hb => lengthOf_any f fn fc l ao m co v w0 (HFL.out.same hb) (HVL.out.same hb) HR.out (by omega) (by omega))
      have KG := Lib.hid (fun w0 hb => longestOf_any f fn fc l w0 (HFL.out.same hb) HR.out (by omega))
      rw [hfit2] at KE KF KS
      rw [← hy] at KE hd1 hd2 hp1 hp2 hlo hle hfew
      rw [hle] at KL
      rw [← hlg] at KG hlo
      have HD1 := Lib.hid hd1
      have HD2 := Lib.hid hd2
      have HP1 := Lib.hid hp1
      have HP2 := Lib.hid hp2
      clear hfit2 hd1 hd2 hp1 hp2 hle hy hlg
      go_wp2_with fail
      refine KE.mono ?_
      rintro e w2 ⟨a1, n1, c1, rfl, ho, hb2⟩
      have hn1 : n1 ≤ 600 := by rw [← ho.len]; exact hfew
      have hnl := ho.len
      rw [hnl] at hlo KL
      rw [hnl] at HP2
      have HY := Lib.hid ho.nums
      have HRY := Lib.hid ho.room
      have HB2 := Lib.hid hb2
      replace HB := Lib.hid (HB.out.trans (hb2.mono HB.out.size))
      clear ho hb2 hfew hnl
      go_wp2_with fail
      refine (KF.out _ HB2.out).mono ?_
      rintro e w3 ⟨rfl, hb3⟩
      replace HB := Lib.hid (HB.out.trans (hb3.mono HB.out.size))
      replace HB2 := Lib.hid (HB2.out.trans (hb3.mono HB2.out.size))
      replace HY := Lib.hid (HY.out.same hb3)
      clear hb3
      go_wp2_with fail
      refine (KS.out _ HB2.out).mono ?_
      rintro e w4 ⟨rfl, hb4⟩
      replace HB := Lib.hid (HB.out.trans (hb4.mono HB.out.size))
      replace HB2 := Lib.hid (HB2.out.trans (hb4.mono HB2.out.size))
      replace HY := Lib.hid (HY.out.same hb4)
      clear hb4 KF KS KE
      have KD := decodeMessage_any f fn fc l a1 n1 c1 y w4 (HFL.out.same HB2.out) HY.out HR.out HRY.out (by omega) (by omega)
      unfold DmTold at KD
      rw [HD1.out, HD2.out] at KD
      go_wp2_with fail
      refine KD.mono ?_
      rintro e w5 ⟨a5, n5, c5, rfl, ho5, hb5⟩
      have HX := Lib.hid ho5.vals
      replace HB := Lib.hid (HB.out.trans (hb5.mono HB.out.size))
      replace HB2 := Lib.hid (HB2.out.trans (hb5.mono HB2.out.size))
      replace HY := Lib.hid (HY.out.same hb5)
      clear ho5 hb5 KD
      have HO0 : Hid (Own .i64 3 (w5.alloc (.cells #[] 3)) w5.heap.size (some ⟨w5.heap.size, 0, none⟩) 0 0 []) := Lib.hid (Own.empty (Nat.le_refl _))
      have HY5 := Lib.hid (HY.out.same (alloc_same w5 (.cells #[] 3)))
      go_wp2_with (at_builtin; refine wpl_app _ rfl (.tmp 51) (.tmp 52) 28 rfl .i64 3 i0 (.int .i64 0) 8 Try.underlying28 HI.out.1 HI.out.2.1 HI.out.2.2.1 HI.out.2.2.2 rfl rfl HO0.out rfl HY5.out (by omega) ?c1 ?c2 ?_)
      case c1 => omega
      case c2 => simp
      intro a6 c6 w6 ho6 hb6
      have hb6' : Below w5.heap.size w5 w6 := (alloc_same _ _).trans hb6
      have HO6 := Lib.hid ho6
      have HN6 : Hid (Nums .i64 (w6.alloc (.cells #[.int .i64 1, .int .i64 2] 3)) (some ⟨w6.heap.size, 0, none⟩) 2 [1, 2]) := Lib.hid (nums_two w6 1 2 3)
      have hs6 := hb6'.size
      clear ho6 hb6 HO0 HY5
      go_wp2_with (at_builtin; refine wpl_app _ rfl (.tmp 53) (.tmp 54) 28 rfl .i64 3 i0 (.int .i64 0) 8 Try.underlying28 HI.out.1 HI.out.2.1 HI.out.2.2.1 HI.out.2.2.2 rfl rfl (HO6.out.alloc _) rfl HN6.out (by omega) ?c3 ?c4 ?_)
      case c3 => omega
      case c4 => simp; omega
      intro a7 c7 w7 ho7 hb7
      have hb7' : Below w5.heap.size w6 w7 := ((alloc_same w6 (.cells #[.int .i64 1, .int .i64 2] 3)).mono hs6).trans hb7
      have HO7 := Lib.hid ho7.nums
      have HRO7 := Lib.hid ho7.room
      have hb57 : Below w5.heap.size w5 w7 := hb6'.trans hb7'
      replace HB := Lib.hid (HB.out.trans (hb57.mono HB.out.size))
      replace HB2 := Lib.hid (HB2.out.trans (hb57.mono HB2.out.size))
      replace HY := Lib.hid (HY.out.same hb57)
      replace HX := Lib.hid (HX.out.same hb57)
      clear ho7 hb7 hb6' hb7' hb57 HN6 HO6
      have KP := readPrefix_any f fn fc l a7 (n1 + 2) c7 (y ++ [1, 2]) w7 (HFL.out.same HB2.out) HO7.out HR.out HRO7.out (by omega) (by omega)
      unfold RpTold at KP
      rw [HP1.out, HP2.out] at KP
      go_wp2_with fail
      refine KP.mono ?_
      rintro e w8 ⟨a8, n8, c8, rfl, ho8, hb8⟩
      have HZ := Lib.hid ho8.vals
      replace HB := Lib.hid (HB.out.trans (hb8.mono HB.out.size))
      replace HB2 := Lib.hid (HB2.out.trans (hb8.mono HB2.out.size))
      replace HX := Lib.hid (HX.out.same hb8)
      clear ho8 hb8 KP HO7 HY
      go_wp2_with fail
      refine (equalMessages_yes (c := c5) (d := co) HX.out (HVL.out.same HB2.out)).mono ?_
      rintro e w9 ⟨rfl, hb9⟩
      replace HB := Lib.hid (HB.out.trans (hb9.mono HB.out.size))
      replace HB2 := Lib.hid (HB2.out.trans (hb9.mono HB2.out.size))
      replace HZ := Lib.hid (HZ.out.same hb9)
      clear hb9
      go_wp2_with fail
      refine (equalMessages_yes (c := c8) (d := co) HZ.out (HVL.out.same HB2.out)).mono ?_
      rintro e w10 ⟨rfl, hb10⟩
      replace HB := Lib.hid (HB.out.trans (hb10.mono HB.out.size))
      replace HB2 := Lib.hid (HB2.out.trans (hb10.mono HB2.out.size))
      clear hb10
      go_wp2_with fail
      refine (KL.out _ HB2.out).mono ?_
      rintro e w11 ⟨rfl, hb11⟩
      replace HB := Lib.hid (HB.out.trans (hb11.mono HB.out.size))
      replace HB2 := Lib.hid (HB2.out.trans (hb11.mono HB2.out.size))
      clear hb11
      have hlg : decide (lg < (n1 : Int)) = false := decide_eq_false (by omega)
      go_wp2_with fail
      refine (KG.out _ HB2.out).mono ?_
      rintro e w12 ⟨rfl, hb12⟩
      replace HB := Lib.hid (HB.out.trans (hb12.mono HB.out.size))
      clear hb12 HB2 HX HZ KL KG HD1 HD2 HP1 HP2
      go_wp2_with fail
      refine (drawDecodeMessage_any a0 n0 c0 _ (HC.out.same HB.out)).mono ?_
      rintro e y1 ⟨f2, fn2, fc2, l2, a2, m2, c2, z, rfl, hf2, hr2, hfn2, hz2, hrz2, hm2, hy1⟩
      replace HB := Lib.hid (HB.out.trans (hy1.mono HB.out.size))
      have HF2 := Lib.hid hf2
      have HR2 := Lib.hid hr2
      have HZ2 := Lib.hid hz2
      have HRZ2 := Lib.hid hrz2
      clear hf2 hr2 hz2 hrz2 hy1
      have KD := decodeMessage_any f2 fn2 fc2 l2 a2 m2 c2 z y1 HF2.out HZ2.out HR2.out HRZ2.out (by omega) (by omega)
      unfold DmTold at KD
      cases hd : dmOk l2 z with
      | false =>
        have hv := dm_not hd
        rw [hd, hv] at KD
        clear hd hv
        go_wp2_with fail
        refine KD.mono ?_
        rintro e y2 ⟨a3, n3, c3, rfl, ho, hy2⟩
        have hn3 : n3 = 0 := by rw [← ho.len]; rfl
        subst hn3
        replace HB := Lib.hid (HB.out.trans (hy2.mono HB.out.size))
        clear ho hy2
        go_wp2_with fail
        go_ret
        exact ⟨rfl, HB.out⟩
      | true =>
        obtain ⟨hq1, hq2⟩ := dm_form hd
        rw [hd] at KD
        have HQ1 := Lib.hid hq1
        have HQ2 := Lib.hid hq2
        clear hd hq1 hq2
        go_wp2_with fail
        refine KD.mono ?_
        rintro e y2 ⟨a3, n3, c3, rfl, ho, hy2⟩
        replace HB := Lib.hid (HB.out.trans (hy2.mono HB.out.size))
        replace HF2 := Lib.hid (HF2.out.same hy2)
        replace HZ2 := Lib.hid (HZ2.out.same hy2)
        have hn3 : n3 ≤ 6 := by rw [← ho.len]; exact (dmV_few l2 z).1
        have HO := Lib.hid ho.vals
        clear ho hy2
        have KE := encodeMessage_any f2 fn2 fc2 l2 a3 n3 c3 (dmV l2 z) y2 HF2.out HO.out HR2.out (by omega) (by omega)
        unfold EncTold at KE
        rw [HQ1.out, HQ2.out] at KE
        go_wp2_with fail
        refine KE.mono ?_
        rintro e y3 ⟨a4, n4, c4, rfl, ho, hy3⟩
        replace HB := Lib.hid (HB.out.trans (hy3.mono HB.out.size))
        replace HZ2 := Lib.hid (HZ2.out.same hy3)
        have HO4 := Lib.hid ho.nums
        clear ho hy3 KE
        go_wp2_with fail
        refine (equalInts_yes (c := c2) (d := c4) HZ2.out HO4.out).mono ?_
        rintro e y4 ⟨rfl, hy4⟩
        replace HB := Lib.hid (HB.out.trans (hy4.mono HB.out.size))
        clear hy4
        go_wp2_with fail
        go_ret
        exact ⟨rfl, HB.out⟩

set_option maxRecDepth 100000 in
theorem lifted (os : Os) (started : os.Started) (H : Type) (enc : TypeId × Value → H) :
    ReturnsInHanded {} Try.checked os 3 .any (Rows.fnCodesSpec.pre6 enc Try.prog Try.f3 Rows.fnCodesRow.domain false) (Rows.fnCodesSpec.post enc Try.prog Try.f3 false true false false) := by
  refine returnsInHanded_of_change (C := Try.checked) own started (by kernel_rfl) Try.func3
    (ChangeSpec.witness6 (enc := enc) (C := Try.checked) false ⟨#[], #[.slice none 0 0], []⟩ 8 (by kernel_rfl) (by kernel_rfl) (by kernel_rfl) (by kernel_rfl)) ?_
  intro W base args ds gs before hval0 hW hcnd _
  have hval : ∀ (j : Nat) t v, Try.f3.params[j]? = some t → args[j]? = some v → Value.okWide Try.prog W .any base t v := hval0
  have hW' := hW
  obtain ⟨p, q, hA0, hV, rfl, hfz, hnd⟩ := hW
  have hA : DataW.TrodAll enc Try.prog W 0 (fun _ => true) true Try.f3.params.toList args.toList ds p := hA0
  rw [Try.params3] at hA hval
  obtain ⟨v0, vs0, d0, ds0, p0, q0, hargs, rfl, rfl, h0, r0⟩ := trodAll_cons hA
  obtain ⟨rfl, rfl, rfl⟩ := trodAll_nil r0
  obtain rfl : args = #[v0] := by cases args; simp_all
  obtain ⟨rfl, rfl⟩ := trodVars_none hV
  have h0k := h0
  have hlt0 : ∀ x ∈ p0, x.block < W.heap.size := fun x hx => by simpa using hW'.lt x (by simp [hx])
  obtain ⟨a0, n0, c0, l0, rfl, K0, F0, R0⟩ := open_nums Try.underlying22 Try.underlying5 byte_cells (hval 0 22 v0 rfl rfl) h0
  clear hA0 hval0
  simp only [List.append_nil] at hW'
  refine (walk a0 n0 c0 l0 W K0 F0 R0).mono fun e W' ⟨he, hb⟩ => ?_
  subst he
  exact ⟨_, rfl, ⟨_, _, _, [], _, [], hW', (trodAll_cons_mk (shut_bool Try.underlying4 _) trodAll_mk0), (trodAll_cons_mk (Below.trod laidOut (by kernel_rfl) (of_decide_eq_true (by kernel_rfl)) h0k hb hlt0) trodAll_mk0), rfl, hb.frame _, fun h => by cases h⟩⟩

theorem over : Rows.fnCodesRow.holds Try.pinned (OpenSpec.ofChange Rows.fnCodesSpec) :=
  OpenClaim.holds_of_wide 3 Try.f3 rfl rfl rfl rfl rfl rfl rfl ⟨rfl, rfl, rfl, rfl, rfl⟩ rfl rfl rfl rfl rfl (by kernel_rfl) Try.func3 (by kernel_rfl)
    (of_decide_eq_true (by kernel_rfl)) (by unfold Func.isWrapper; first | (rw [if_pos (by decide +kernel)]; kernel_rfl) | (rw [if_neg (by decide +kernel)]; exact ⟨rfl, rfl⟩))
    (fun os started H enc _ => lifted os started H enc)

theorem proved : Rows.FnCodesSaid :=
  over
end Go.Proofs.Ytpbdfbpcjeajbaa.fnCodes
