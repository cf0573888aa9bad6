/- For every input of bytes: a message that is made of a drawn format fits it and is decoded from its bytes, a drawn list that is no format has none; spoiling changes one byte at most; and the counted lists are no more than there are. -/
import Derived.Test.YtjmabidahofbbaaDr
import Derived.Test.YtjmabidahofbbaaDrBig
import Derived.Test.YtjmabidahofbbaaDrM
import Derived.Test.YtjmabidahofbbaaCodeL
import Derived.Test.YtjmabidahofbbaaMmI
import Derived.Test.YtjmabidahofbbaaRpI
import Derived.Test.YtjmabidahofbbaaEqVF
import Derived.Test.YtjmabidahofbbaaSpoil
import Derived.Test.YtjmabidahofbbaaCnt
import Derived.Test.YtjmabidahofbbaaOpen
import Derived.WalkKit
import Derived.Deep.RegionHeld3
import Derived.ProofKit
import Derived.OpenShut
namespace Go.Proofs.Ytjmabidahofbbaa.fnMade
open Go.ChangeShapes Go.WideShapes Go.ChangeAt Go.RowKit Go.Lib
open Go.ChangeMaps (open_string shut_string)
set_option linter.unusedVariables false

theorem own : ownKnob Try.prog.godebug = none := by kernel_rfl
theorem cntMsg_bd (l : List Fd) (most : Int) : 0 ≤ cntMsg l most ∧ cntMsg l most ≤ 364 ∧ (cntMsg l most ≠ 0 → isFmt l = true) := by
  unfold cntMsg
  by_cases h : 0 ≤ most ∧ most ≤ 5
  · rw [if_pos h]
    have h1 := cnt_le l most.toNat []
    have h2 := szOf_few (show most.toNat ≤ 5 by omega)
    refine ⟨by omega, by omega, fun hne => ?_⟩
    cases hf : isFmt l with
    | true => rfl
    | false => exact absurd (by rw [cnt_not hf]; rfl) hne
  · rw [if_neg h]
    exact ⟨by omega, by omega, fun hne => absurd rfl hne⟩

set_option maxHeartbeats 40000000 in
set_option maxRecDepth 100000 in
theorem walk (a0 : Option Addr) (n0 c0 : Nat) (l0 : List Int) (w : World) (K0 : Nums .u8 w a0 n0 l0) (F0 : ∀ x ∈ l0, (Lit.int .u8 x).wf = true) (R0 : n0 ≤ c0 ∧ (c0 : Int) ≤ 9223372036854775807) :
    Calls Try.prog 3 #[.slice a0 n0 c0] w fun e w' => e = .returned (.bool true) ∧ Below w.heap.size w w' := by
  have HK := Lib.hid K0
  have HF := Lib.hid (bs_of_wf F0)
  have hfit := K0.fits
  clear K0 F0 R0
  by_cases hbig : 1048576 < n0
  · go_enter Try.func3, Try.ntmps3
    go_wp2_with fail
    refine (big_yes a0 n0 c0 hfit hbig _).mono ?_
    rintro e w1 ⟨rfl, rfl⟩
    go_wp2_with fail
    go_ret
    exact ⟨rfl, Below.refl _ _⟩
  · have HC := Lib.hid (code_of HK.out HF.out)
    go_enter Try.func3, Try.ntmps3
    go_wp2_with fail
    refine (big_no a0 n0 c0 hfit hbig _).mono ?_
    rintro e w1 ⟨rfl, rfl⟩
    go_wp2_with fail
    refine (drawMakeMessage_any a0 n0 c0 _ HC.out).mono ?_
    rintro e w1 ⟨f, fn, fc, l, sd, rfl, hsd0, hsd1, hf1, hr1, hfn, hb1⟩
    have HFL := Lib.hid hf1
    have HR := Lib.hid hr1
    have HB := Lib.hid hb1
    have hsd : Fit64 sd := fit_mk (by omega) (by omega)
    have HSD := Lib.hid hsd
    have hl := Lib.hid hf1.len
    clear hf1 hr1 hb1 hsd
    have KM := makeMessage_any f fn fc l sd w1 HFL.out HR.out (by omega) HSD.out
    unfold MadeV at KM
    go_wp2_with fail
    refine KM.mono ?_
    rintro e w2 ⟨am, nm, cm0, rfl, hm, hb2⟩
    have HM := Lib.hid hm
    have hnm : nm ≤ 6 := by rw [← hm.len]; exact (mkMsg_few l sd).1
    replace HB := Lib.hid (HB.out.trans (hb2.mono HB.out.size))
    replace HFL := Lib.hid (HFL.out.same hb2)
    clear hm hb2 KM
    have KB := makeBytes_any f fn fc l sd w2 HFL.out HR.out (by omega) HSD.out
    unfold Made at KB
    go_wp2_with fail
    refine KB.mono ?_
    rintro e w3 ⟨ab, nb, cb, rfl, hbb, hb3⟩
    have HBB := Lib.hid hbb
    have hnb : nb ≤ 600 := by rw [← hbb.len]; exact encOf_few _ _
    replace HB := Lib.hid (HB.out.trans (hb3.mono HB.out.size))
    replace HFL := Lib.hid (HFL.out.same hb3)
    replace HM := Lib.hid (HM.out.same hb3)
    clear hbb hb3 KB
    have KI := isFormat_any f fn fc l w3 HFL.out HR.out
    cases hfm : isFmt l with
    | false =>
      have hn0' : nm = 0 := by rw [← HM.out.len, mkMsg_no sd hfm]; rfl
      have hb0' : nb = 0 := by rw [← HBB.out.len, encOf_no (fitsFmt_notFmt hfm)]; rfl
      subst hn0' hb0'
      rw [hfm] at KI
      go_wp2_with fail
      refine KI.mono ?_
      rintro e w4 ⟨rfl, hb4⟩
      replace HB := Lib.hid (HB.out.trans (hb4.mono HB.out.size))
      replace HFL := Lib.hid (HFL.out.same hb4)
      clear hb4 KI
      have KS := specIsFormat_any f fn fc l w4 HFL.out (by omega)
      rw [hfm] at KS
      clear hfm
      go_wp2_with fail
      refine KS.mono ?_
      rintro e w5 ⟨rfl, hb5⟩
      replace HB := Lib.hid (HB.out.trans (hb5.mono HB.out.size))
      clear hb5
      go_wp2_with fail
      go_ret
      exact ⟨rfl, HB.out⟩
    | true =>
      have hfits := mkMsg_fits sd hfm
      obtain ⟨hd1, hd2⟩ := dm_code hfits
      rw [hfm] at KI
      have HFITS := Lib.hid hfits
      have HD1 := Lib.hid hd1
      have HD2 := Lib.hid hd2
      clear hfm hfits hd1 hd2
      go_wp2_with fail
      refine KI.mono ?_
      rintro e w4 ⟨rfl, hb4⟩
      replace HB := Lib.hid (HB.out.trans (hb4.mono HB.out.size))
      replace HFL := Lib.hid (HFL.out.same hb4)
      replace HM := Lib.hid (HM.out.same hb4)
      replace HBB := Lib.hid (HBB.out.same hb4)
      clear hb4 KI
      have KD := decodeMessage_any f fn fc l ab nb cb (encOf l (mkMsg l sd)) w4 HFL.out HBB.out.nums HR.out HBB.out.room (by omega) (by omega)
      unfold DmTold at KD
      rw [HD1.out, HD2.out] at KD
      go_wp2_with fail
      refine KD.mono ?_
      rintro e w5 ⟨ax, nx, cx, rfl, hx, hb5⟩
      have HX := Lib.hid hx.vals
      replace HB := Lib.hid (HB.out.trans (hb5.mono HB.out.size))
      replace HFL := Lib.hid (HFL.out.same hb5)
      replace HM := Lib.hid (HM.out.same hb5)
      replace HBB := Lib.hid (HBB.out.same hb5)
      clear hx hb5 KD
      have KF := fitsFormat_any f fn fc l am nm cm0 (mkMsg l sd) w5 HFL.out HM.out.vals HR.out (by omega) (by omega)
      rw [HFITS.out] at KF
      go_wp2_with fail
      refine KF.mono ?_
      rintro e w6 ⟨rfl, hb6⟩
      replace HB := Lib.hid (HB.out.trans (hb6.mono HB.out.size))
      replace HM := Lib.hid (HM.out.same hb6)
      replace HX := Lib.hid (HX.out.same hb6)
      replace HBB := Lib.hid (HBB.out.same hb6)
      clear hb6 KF
      go_wp2_with fail
      refine (equalMessages_yes (c := cx) (d := cm0) HX.out HM.out.vals).mono ?_
      rintro e w7 ⟨rfl, hb7⟩
      replace HB := Lib.hid (HB.out.trans (hb7.mono HB.out.size))
      replace HBB := Lib.hid (HBB.out.same hb7)
      clear hb7 HM HX
      obtain ⟨bs, hbs⟩ : ∃ bs, bs = encOf l (mkMsg l sd) := ⟨_, rfl⟩
      rw [← hbs] at HBB
      clear hbs
      have KS := spoilBytes_any ab nb cb bs sd w7 HBB.out.nums (by omega) HSD.out
      unfold Made at KS
      go_wp2_with fail
      refine KS.mono ?_
      rintro e w8 ⟨asp, ns, cs, rfl, hs8, hb8⟩
      obtain rfl : ns = nb := by rw [← hs8.len, spoilOf_len, HBB.out.len]
      replace HB := Lib.hid (HB.out.trans (hb8.mono HB.out.size))
      have HSN := Lib.hid hs8.nums
      have HBN := Lib.hid (HBB.out.same hb8).nums
      obtain ⟨qd, hqd⟩ := spoilOf_other bs sd
      have HQD := Lib.hid hqd
      clear hs8 hb8 KS hqd HBB
      go_wp2_with fail
      go_loopw [10, 11] (fun u i wr => ∃ o j : Nat, u = .int .i64 o ∧ i = .int .i64 j ∧ j ≤ ns ∧ o ≤ 1 ∧ (j ≤ qd → o = 0) ∧ Below w8.heap.size w8 wr) (fun _ i _ => ns - (intOf i).toNat)
      case atStart => exact ⟨0, 0, rfl, rfl, Nat.zero_le _, Nat.zero_le _, fun _ => rfl, Below.refl _ _⟩
      case round =>
        obtain ⟨o, j, rfl, rfl, hj, ho1, hoq, hbw⟩ := hrel
        have HBW := Lib.hid hbw
        clear hbw
        by_cases hlt : j < ns
        · have hltI : (j : Int) < (ns : Int) := by omega
          obtain ⟨ads, xs, e1, hxs, hcs⟩ := (HSN.out.same HBW.out).at_ hlt
          obtain ⟨adb, xb, e2, hxb, hcb⟩ := (HBN.out.same HBW.out).at_ hlt
          subst e1 e2
          have HXQ : Hid (j ≠ qd → xs = xb) := Lib.hid fun h => by
            have := HQD.out j h
            rw [hxs, hxb] at this
            exact Option.some.inj this
          clear hxs hxb
          by_cases hxe : xs = xb
          · have b1 : (xs != xb) = false := by simpa using hxe
            go_wp2_with fail
            go_quiet (fail)
            go_wp2_with fail
            go_roundw
            case rel => exact ⟨o, j + 1, rfl, by go_num, by omega, ho1, fun h => hoq (by omega), HBW.out.trans ((drewN_same _ _).mono HBW.out.size)⟩
            case measure => simp [intOf]; omega
          · have b1 : (xs != xb) = true := by simpa using hxe
            have hjq : j = qd := by
              by_cases h : j = qd
              · exact h
              · exact absurd (HXQ.out h) hxe
            obtain rfl : o = 0 := hoq (by omega)
            have HJQ := Lib.hid hjq
            clear hjq hoq
            go_wp2_with fail
            go_quiet (fail)
            go_wp2_with fail
            go_roundw
            case rel => exact ⟨1, j + 1, by go_num, by go_num, by omega, Nat.le_refl _, fun h => absurd h (by have := HJQ.out; omega), HBW.out.trans ((drewN_same _ _).mono HBW.out.size)⟩
            case measure => simp [intOf]; omega
        · obtain rfl : j = ns := by omega
          replace HB := Lib.hid (HB.out.trans (HBW.out.mono HB.out.size))
          clear hoq HBW HSN HBN HQD
          go_wp2_with fail
          refine (drawCountMessages_any a0 n0 c0 _ (HC.out.same HB.out)).mono ?_
          rintro e z1 ⟨f2, fn2, fc2, l2, most, rfl, hmo0, hmo1, hf2, hr2, hfn2, hz1⟩
          replace HB := Lib.hid (HB.out.trans (hz1.mono HB.out.size))
          have HF2 := Lib.hid hf2
          have HR2 := Lib.hid hr2
          clear hf2 hr2 hz1
          go_wp2_with fail
          refine (countMessages_any f2 fn2 fc2 l2 most z1 HF2.out HR2.out (by omega) (fit_mk (by omega) (by omega))).mono ?_
          rintro e z2 ⟨rfl, hz2⟩
          replace HB := Lib.hid (HB.out.trans (hz2.mono HB.out.size))
          replace HF2 := Lib.hid (HF2.out.same hz2)
          clear hz2
          obtain ⟨hc0, hc1, hc2⟩ := cntMsg_bd l2 most
          obtain ⟨cm, hcm⟩ : ∃ cm : Nat, cntMsg l2 most = cm := ⟨(cntMsg l2 most).toNat, by omega⟩
          rw [hcm] at hc0 hc1 hc2
          rw [hcm]
          clear hcm
          have b1 : decide ((0 : Int) ≤ (cm : Int)) = true := decide_eq_true hc0
          have b2 : decide ((cm : Int) ≤ 364) = true := decide_eq_true hc1
          have b3 : decide ((o : Int) ≤ 1) = true := decide_eq_true (by omega)
          by_cases hcz : cm = 0
          · subst hcz
            clear hc2
            go_wp2_with fail
            go_ret
            exact ⟨rfl, HB.out⟩
          · have b4 : ((cm : Int) == 0) = false := by
              have : (cm : Int) ≠ 0 := by omega
              simpa using this
            have b5 : ¬ (cm : Int) = 0 := by omega
            have hfmt : isFmt l2 = true := hc2 (by omega)
            have KI := isFormat_any f2 fn2 fc2 l2 z2 HF2.out HR2.out
            rw [hfmt] at KI
            clear hc2 hfmt
            go_wp2_with fail
            refine KI.mono ?_
            rintro e z3 ⟨rfl, hz3⟩
            replace HB := Lib.hid (HB.out.trans (hz3.mono HB.out.size))
            clear hz3
            go_wp2_with fail
            go_ret
            exact ⟨rfl, HB.out⟩

set_option maxRecDepth 100000 in
theorem lifted (os : Os) (started : os.Started) (H : Type) (enc : TypeId × Value → H) :
    ReturnsInHanded {} Try.checked os 3 .any (Rows.fnMadeSpec.pre6 enc Try.prog Try.f3 Rows.fnMadeRow.domain false) (Rows.fnMadeSpec.post enc Try.prog Try.f3 false true false false) := by
  refine returnsInHanded_of_change (C := Try.checked) own started (by kernel_rfl) Try.func3
    (ChangeSpec.witness6 (enc := enc) (C := Try.checked) false ⟨#[], #[.slice none 0 0], []⟩ 8 (by kernel_rfl) (by kernel_rfl) (by kernel_rfl) (by kernel_rfl)) ?_
  intro W base args ds gs before hval0 hW hcnd _
  have hval : ∀ (j : Nat) t v, Try.f3.params[j]? = some t → args[j]? = some v → Value.okWide Try.prog W .any base t v := hval0
  have hW' := hW
  obtain ⟨p, q, hA0, hV, rfl, hfz, hnd⟩ := hW
  have hA : DataW.TrodAll enc Try.prog W 0 (fun _ => true) true Try.f3.params.toList args.toList ds p := hA0
  rw [Try.params3] at hA hval
  obtain ⟨v0, vs0, d0, ds0, p0, q0, hargs, rfl, rfl, h0, r0⟩ := trodAll_cons hA
  obtain ⟨rfl, rfl, rfl⟩ := trodAll_nil r0
  obtain rfl : args = #[v0] := by cases args; simp_all
  obtain ⟨rfl, rfl⟩ := trodVars_none hV
  have h0k := h0
  have hlt0 : ∀ x ∈ p0, x.block < W.heap.size := fun x hx => by simpa using hW'.lt x (by simp [hx])
  obtain ⟨a0, n0, c0, l0, rfl, K0, F0, R0⟩ := open_nums Try.underlying22 Try.underlying5 byte_cells (hval 0 22 v0 rfl rfl) h0
  clear hA0 hval0
  simp only [List.append_nil] at hW'
  refine (walk a0 n0 c0 l0 W K0 F0 R0).mono fun e W' ⟨he, hb⟩ => ?_
  subst he
  exact ⟨_, rfl, ⟨_, _, _, [], _, [], hW', (trodAll_cons_mk (shut_bool Try.underlying4 _) trodAll_mk0), (trodAll_cons_mk (Below.trod laidOut (by kernel_rfl) (of_decide_eq_true (by kernel_rfl)) h0k hb hlt0) trodAll_mk0), rfl, hb.frame _, fun h => by cases h⟩⟩

theorem over : Rows.fnMadeRow.holds Try.pinned (OpenSpec.ofChange Rows.fnMadeSpec) :=
  OpenClaim.holds_of_wide 3 Try.f3 rfl rfl rfl rfl rfl rfl rfl ⟨rfl, rfl, rfl, rfl, rfl⟩ rfl rfl rfl rfl rfl (by kernel_rfl) Try.func3 (by kernel_rfl)
    (of_decide_eq_true (by kernel_rfl)) (by unfold Func.isWrapper; first | (rw [if_pos (by decide +kernel)]; kernel_rfl) | (rw [if_neg (by decide +kernel)]; exact ⟨rfl, rfl⟩))
    (fun os started H enc _ => lifted os started H enc)

theorem proved : Rows.FnMadeSaid :=
  over
end Go.Proofs.Ytjmabidahofbbaa.fnMade
