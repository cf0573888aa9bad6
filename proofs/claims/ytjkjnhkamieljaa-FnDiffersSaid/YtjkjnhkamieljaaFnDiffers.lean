/- For every input of bytes: how two drawn lists of fields differ, and that the wider one accepts what is made of the narrower one. -/
import Derived.Test.YtjkjnhkamieljaaG1
import Derived.Test.YtjkjnhkamieljaaG3
import Derived.Test.YtjkjnhkamieljaaG10
import Derived.Test.YtjkjnhkamieljaaG13
import Derived.Test.YtjkjnhkamieljaaG12
import Derived.WalkKit
import Derived.Deep.RegionHeld3
import Derived.ProofKit
import Derived.OpenShut
namespace Go.Proofs.Ytjkjnhkamieljaa.fnDiffers
open Go.ChangeShapes Go.WideShapes Go.ChangeAt Go.RowKit Go.Lib
open Go.ChangeMaps (open_string shut_string)
set_option linter.unusedVariables false

theorem own : ownKnob Try.prog.godebug = none := by kernel_rfl

set_option maxHeartbeats 40000000 in
set_option maxRecDepth 100000 in
theorem walk (a0 : Option Addr) (n0 c0 : Nat) (l0 : List Int) (w : World) (K0 : Nums .u8 w a0 n0 l0) (F0 : ∀ x ∈ l0, (Lit.int .u8 x).wf = true) (R0 : n0 ≤ c0 ∧ (c0 : Int) ≤ 9223372036854775807) :
    Calls Try.prog 3 #[.slice a0 n0 c0] w fun e w' => e = .returned (.bool true) ∧ Below w.heap.size w w' := by
  have HK := Lib.hid K0
  have HF := Lib.hid (bs_of_wf F0)
  have hfit := K0.fits
  clear K0 F0 R0
  by_cases hbig : 1048576 < n0
  · go_enter Try.func3, Try.ntmps3
    go_wp2_with fail
    refine (big_yes a0 n0 c0 hfit hbig _).mono ?_
    rintro e w1 ⟨rfl, rfl⟩
    go_wp2_with fail
    go_ret
    exact ⟨rfl, Below.refl _ _⟩
  · have HC := Lib.hid (code_of HK.out HF.out)
    go_enter Try.func3, Try.ntmps3
    go_wp2_with fail
    refine (big_no a0 n0 c0 hfit hbig _).mono ?_
    rintro e w1 ⟨rfl, rfl⟩
    go_wp2_with fail
    refine (drawBreakOf_any a0 n0 c0 _ HC.out).mono ?_
    rintro e w1 ⟨f, fn, fc, l, g, gn, gc, l', rfl, hf1, hg1, hr1, hs1, hfn, hgn, hb1⟩
    have HB := Lib.hid hb1
    have hl := Lib.hid hf1.len
    have hl' := Lib.hid hg1.len
    have HR := Lib.hid hr1
    have HS := Lib.hid hs1
    have KBr := Lib.hid (fun (w0 : World) (hb : Below w1.heap.size w1 w0) => breakOf_any (c := fc) (d := gc) (hf1.same hb) (hg1.same hb) hr1 hs1 (by omega))
    have KBb := Lib.hid (fun (w0 : World) (hb : Below w1.heap.size w1 w0) => breakOf_any (c := gc) (d := fc) (hg1.same hb) (hf1.same hb) hs1 hr1 (by omega))
    have KN := Lib.hid (fun (w0 : World) => breakName_any (brOf l l') w0)
    have KF := Lib.hid (fun (w0 : World) (hb : Below w1.heap.size w1 w0) => isFormat_any f fn fc l w0 (hf1.same hb) hr1)
    have KE := Lib.hid (fun (w0 : World) (hb : Below w1.heap.size w1 w0) => equalFormats_any (c := fc) (d := gc) (hf1.same hb) (hg1.same hb))
    have KT := Lib.hid (fun (w0 : World) (hb : Below w1.heap.size w1 w0) (hle : fn ≤ gn) => equalFormats_any (c := fc) (d := gc) (hf1.same hb) ((hg1.take fn hle).same hb))
    have KW := Lib.hid (fun (w0 : World) (hb : Below w1.heap.size w1 w0) => isWithin_any (c := fc) (d := gc) (hf1.same hb) (hg1.same hb) hr1 hs1)
    have KL := Lib.hid (fun (w0 : World) (hb : Below w1.heap.size w1 w0) => lostBy_any (c := fc) (d := gc) 12 (hf1.same hb) (hg1.same hb) hr1 hs1 (by omega) (by omega))
    have KX := Lib.hid (fun (w0 : World) (hb : Below w1.heap.size w1 w0) (q : Int) (hq : Fit64 q) => makeBytes_any f fn fc l q w0 (hf1.same hb) hr1 (by omega) hq)
    have KM := Lib.hid (fun (w0 : World) (hb : Below w1.heap.size w1 w0) (q : Int) (hq : Fit64 q) => makeMessage_any f fn fc l q w0 (hf1.same hb) hr1 (by omega) hq)
    have KD := Lib.hid (fun (w0 : World) (hb : Below w1.heap.size w1 w0) (p : Option Addr) (k r : Nat) (y : List Int) (hy : Nums .i64 w0 p k y) (hk : k ≤ 1000000000) (hf : k ≤ r ∧ (r : Int) ≤ 9223372036854775807) => decodeMessage_any g gn gc l' p k r y w0 (hg1.same hb) hy hs1 hf (by omega) hk)
    have KS := Lib.hid (fun (w0 : World) (hb : Below w1.heap.size w1 w0) (q : Int) (hq : Fit64 q) => skipsTail_any (c := fc) (d := gc) q hq (hf1.same hb) (hg1.same hb) hr1 hs1 (by omega) (by omega))
    unfold Made at KX
    unfold MadeV at KM
    unfold DmTold at KD
    have HZ := Lib.hid (Below.refl w1.heap.size w1)
    obtain ⟨hrn, hr2⟩ := hr1
    obtain ⟨hsn, hs2⟩ := hs1
    clear hf1 hg1 hb1
    rcases br_cases l l' with hk | ⟨hk, hback⟩ | ⟨hk, hlt, hB⟩ | ⟨hk, hback⟩ | hk | hk
    · have hk1 := hk.is
      have hk2 := hk.fmt
      have hk4 := hk.lies
      have hk3 := hk.same rfl
      rw [hk1] at KBr KN
      rw [hk2] at KF
      rw [hk4] at KW
      rw [hk3] at KE
      have HW := Lib.hid hk4
      rw [lostOf_within hk4] at KL
      clear hk hk1 hk2 hk4 hk3
      obtain ⟨kb, hkb⟩ : ∃ kb, brOf l' l = kb := ⟨_, rfl⟩
      rw [hkb] at KBb
      clear hkb
      go_wp2_with fail
      refine (KBr.out _ HZ.out).mono ?_
      rintro e z1 ⟨rfl, hz⟩
      replace HZ := Lib.hid (HZ.out.trans (hz.mono HZ.out.size))
      clear hz
      go_wp2_with fail
      refine (KN.out _).mono ?_
      rintro e z2 ⟨rfl, hz⟩
      replace HZ := Lib.hid (HZ.out.trans (hz.mono HZ.out.size))
      clear hz
      go_wp2_with fail
      refine (KF.out _ HZ.out).mono ?_
      rintro e z3 ⟨rfl, hz⟩
      replace HZ := Lib.hid (HZ.out.trans (hz.mono HZ.out.size))
      clear hz
      go_wp2_with fail
      refine (KE.out _ HZ.out).mono ?_
      rintro e z4 ⟨rfl, hz⟩
      replace HZ := Lib.hid (HZ.out.trans (hz.mono HZ.out.size))
      clear hz
      go_wp2_with fail
      refine (KBb.out _ HZ.out).mono ?_
      rintro e z5 ⟨rfl, hz⟩
      replace HZ := Lib.hid (HZ.out.trans (hz.mono HZ.out.size))
      clear hz
      go_wp2_with fail
      refine (KW.out _ HZ.out).mono ?_
      rintro e z6 ⟨rfl, hz⟩
      replace HZ := Lib.hid (HZ.out.trans (hz.mono HZ.out.size))
      clear hz
      go_wp2_with fail
      refine (KL.out _ HZ.out).mono ?_
      rintro e z7 ⟨rfl, hz⟩
      replace HZ := Lib.hid (HZ.out.trans (hz.mono HZ.out.size))
      clear hz
      go_wp2_with fail
      go_loopw [7] (fun i wr => ∃ j : Nat, j ≤ 5 ∧ i = .int .i64 j ∧ Below w1.heap.size w1 wr) (fun i _ => 5 - (intOf i).toNat)
      case atStart => exact ⟨0, by omega, rfl, HZ.out⟩
      case round =>
        obtain ⟨j, hj, rfl, hb⟩ := hrel
        clear HZ
        have HZ := Lib.hid hb
        clear hb
        by_cases hlt : j < 5
        · have hq : Fit64 (j : Int) := fit_mk (by omega) (by omega)
          go_wp2_with fail
          refine (KX.out _ HZ.out j hq).mono ?_
          rintro e z8 ⟨p, k, r, rfl, ho, hz⟩
          have hpr := ho.room
          have hpk : k ≤ 600 := by rw [← ho.len]; exact encOf_few _ _
          have HX := Lib.hid ho.nums
          clear ho
          replace HZ := Lib.hid (HZ.out.trans (hz.mono HZ.out.size))
          clear hz
          go_wp2_with fail
          refine (KW.out _ HZ.out).mono ?_
          rintro e z9 ⟨rfl, hz⟩
          replace HX := Lib.hid (HX.out.same hz)
          replace HZ := Lib.hid (HZ.out.trans (hz.mono HZ.out.size))
          clear hz
          have K2 := Lib.hid (KD.out _ HZ.out p k r _ HX.out (by omega) hpr)
          rw [(made_within HW.out j).1, (made_within HW.out j).2] at K2
          clear HX hpr hpk
          go_wp2_with fail
          refine (K2.out).mono ?_
          rintro e z10 ⟨p2, k2, r2, rfl, ho2, hz⟩
          have HY := Lib.hid ho2.vals
          clear ho2
          replace HZ := Lib.hid (HZ.out.trans (hz.mono HZ.out.size))
          clear hz
          go_wp2_with fail
          refine (KM.out _ HZ.out j hq).mono ?_
          rintro e z11 ⟨p3, k3, r3, rfl, ho3, hz⟩
          have HY3 := Lib.hid ho3.vals
          replace HY := Lib.hid (HY.out.same hz)
          clear ho3
          replace HZ := Lib.hid (HZ.out.trans (hz.mono HZ.out.size))
          clear hz
          go_wp2_with fail
          refine (equalMessages_yes (c := r2) (d := r3) HY.out HY3.out).mono ?_
          rintro e z12 ⟨rfl, hz⟩
          replace HZ := Lib.hid (HZ.out.trans (hz.mono HZ.out.size))
          clear hz
          go_wp2_with fail
          go_roundw
          case rel => exact ⟨j + 1, by omega, by go_num, HZ.out⟩
          case measure => simp [intOf]; omega
        · go_wp2_with fail
          go_ret
          exact ⟨rfl, HB.out.trans (HZ.out.mono HB.out.size)⟩
    · have hk1 := hk.is
      have hk2 := hk.fmt
      have hk4 := hk.lies
      have hk3 := hk.same rfl
      rw [hk1] at KBr KN
      rw [hk2] at KF
      rw [hk4] at KW
      rw [hk3] at KE
      have HW := Lib.hid hk4
      rw [lostOf_within hk4] at KL
      rw [hback] at KBb
      clear hk hk1 hk2 hk4 hk3 hback
      go_wp2_with fail
      refine (KBr.out _ HZ.out).mono ?_
      rintro e z13 ⟨rfl, hz⟩
      replace HZ := Lib.hid (HZ.out.trans (hz.mono HZ.out.size))
      clear hz
      go_wp2_with fail
      refine (KN.out _).mono ?_
      rintro e z14 ⟨rfl, hz⟩
      replace HZ := Lib.hid (HZ.out.trans (hz.mono HZ.out.size))
      clear hz
      go_wp2_with fail
      refine (KF.out _ HZ.out).mono ?_
      rintro e z15 ⟨rfl, hz⟩
      replace HZ := Lib.hid (HZ.out.trans (hz.mono HZ.out.size))
      clear hz
      go_wp2_with fail
      refine (KE.out _ HZ.out).mono ?_
      rintro e z16 ⟨rfl, hz⟩
      replace HZ := Lib.hid (HZ.out.trans (hz.mono HZ.out.size))
      clear hz
      go_wp2_with fail
      refine (KBb.out _ HZ.out).mono ?_
      rintro e z17 ⟨rfl, hz⟩
      replace HZ := Lib.hid (HZ.out.trans (hz.mono HZ.out.size))
      clear hz
      go_wp2_with fail
      refine (KW.out _ HZ.out).mono ?_
      rintro e z18 ⟨rfl, hz⟩
      replace HZ := Lib.hid (HZ.out.trans (hz.mono HZ.out.size))
      clear hz
      go_wp2_with fail
      refine (KL.out _ HZ.out).mono ?_
      rintro e z19 ⟨rfl, hz⟩
      replace HZ := Lib.hid (HZ.out.trans (hz.mono HZ.out.size))
      clear hz
      go_wp2_with fail
      go_loopw [7] (fun i wr => ∃ j : Nat, j ≤ 5 ∧ i = .int .i64 j ∧ Below w1.heap.size w1 wr) (fun i _ => 5 - (intOf i).toNat)
      case atStart => exact ⟨0, by omega, rfl, HZ.out⟩
      case round =>
        obtain ⟨j, hj, rfl, hb⟩ := hrel
        clear HZ
        have HZ := Lib.hid hb
        clear hb
        by_cases hlt : j < 5
        · have hq : Fit64 (j : Int) := fit_mk (by omega) (by omega)
          go_wp2_with fail
          refine (KX.out _ HZ.out j hq).mono ?_
          rintro e z20 ⟨p, k, r, rfl, ho, hz⟩
          have hpr := ho.room
          have hpk : k ≤ 600 := by rw [← ho.len]; exact encOf_few _ _
          have HX := Lib.hid ho.nums
          clear ho
          replace HZ := Lib.hid (HZ.out.trans (hz.mono HZ.out.size))
          clear hz
          go_wp2_with fail
          refine (KW.out _ HZ.out).mono ?_
          rintro e z21 ⟨rfl, hz⟩
          replace HX := Lib.hid (HX.out.same hz)
          replace HZ := Lib.hid (HZ.out.trans (hz.mono HZ.out.size))
          clear hz
          have K2 := Lib.hid (KD.out _ HZ.out p k r _ HX.out (by omega) hpr)
          rw [(made_within HW.out j).1, (made_within HW.out j).2] at K2
          clear HX hpr hpk
          go_wp2_with fail
          refine (K2.out).mono ?_
          rintro e z22 ⟨p2, k2, r2, rfl, ho2, hz⟩
          have HY := Lib.hid ho2.vals
          clear ho2
          replace HZ := Lib.hid (HZ.out.trans (hz.mono HZ.out.size))
          clear hz
          go_wp2_with fail
          refine (KM.out _ HZ.out j hq).mono ?_
          rintro e z23 ⟨p3, k3, r3, rfl, ho3, hz⟩
          have HY3 := Lib.hid ho3.vals
          replace HY := Lib.hid (HY.out.same hz)
          clear ho3
          replace HZ := Lib.hid (HZ.out.trans (hz.mono HZ.out.size))
          clear hz
          go_wp2_with fail
          refine (equalMessages_yes (c := r2) (d := r3) HY.out HY3.out).mono ?_
          rintro e z24 ⟨rfl, hz⟩
          replace HZ := Lib.hid (HZ.out.trans (hz.mono HZ.out.size))
          clear hz
          go_wp2_with fail
          go_roundw
          case rel => exact ⟨j + 1, by omega, by go_num, HZ.out⟩
          case measure => simp [intOf]; omega
        · go_wp2_with fail
          go_ret
          exact ⟨rfl, HB.out.trans (HZ.out.mono HB.out.size)⟩
    · have hk1 := hk.is
      have hk2 := hk.fmt
      have hk4 := hk.lies
      have hk3 := hk.same rfl
      rw [hk1] at KBr KN
      rw [hk2] at KF
      rw [hk4] at KW
      rw [hk3] at KE
      have HT := Lib.hid (fun (h : same l (l'.take l.length) = true) (q : Int) => skip_same hlt hk2 hB h q)
      have hfg : fn < gn := by rw [← hl.out, ← hl'.out]; exact hlt
      clear hk hk1 hk2 hk4 hk3 hlt hB
      obtain ⟨kb, hkb⟩ : ∃ kb, brOf l' l = kb := ⟨_, rfl⟩
      rw [hkb] at KBb
      clear hkb
      go_wp2_with fail
      refine (KBr.out _ HZ.out).mono ?_
      rintro e z25 ⟨rfl, hz⟩
      replace HZ := Lib.hid (HZ.out.trans (hz.mono HZ.out.size))
      clear hz
      go_wp2_with fail
      refine (KN.out _).mono ?_
      rintro e z26 ⟨rfl, hz⟩
      replace HZ := Lib.hid (HZ.out.trans (hz.mono HZ.out.size))
      clear hz
      go_wp2_with fail
      refine (KF.out _ HZ.out).mono ?_
      rintro e z27 ⟨rfl, hz⟩
      replace HZ := Lib.hid (HZ.out.trans (hz.mono HZ.out.size))
      clear hz
      go_wp2_with fail
      refine (KE.out _ HZ.out).mono ?_
      rintro e z28 ⟨rfl, hz⟩
      replace HZ := Lib.hid (HZ.out.trans (hz.mono HZ.out.size))
      clear hz
      go_wp2_with fail
      refine (KBb.out _ HZ.out).mono ?_
      rintro e z29 ⟨rfl, hz⟩
      replace HZ := Lib.hid (HZ.out.trans (hz.mono HZ.out.size))
      clear hz
      go_wp2_with fail
      refine (KW.out _ HZ.out).mono ?_
      rintro e z30 ⟨rfl, hz⟩
      replace HZ := Lib.hid (HZ.out.trans (hz.mono HZ.out.size))
      clear hz
      go_wp2_with fail
      go_loopw [7] (fun i wr => ∃ j : Nat, j ≤ 5 ∧ i = .int .i64 j ∧ Below w1.heap.size w1 wr) (fun i _ => 5 - (intOf i).toNat)
      case atStart => exact ⟨0, by omega, rfl, HZ.out⟩
      case round =>
        obtain ⟨j, hj, rfl, hb⟩ := hrel
        clear HZ
        have HZ := Lib.hid hb
        clear hb
        by_cases hlt : j < 5
        · have hq : Fit64 (j : Int) := fit_mk (by omega) (by omega)
          go_wp2_with fail
          refine (KX.out _ HZ.out j hq).mono ?_
          rintro e z31 ⟨p, k, r, rfl, ho, hz⟩
          have hpr := ho.room
          have hpk : k ≤ 600 := by rw [← ho.len]; exact encOf_few _ _
          have HX := Lib.hid ho.nums
          clear ho
          replace HZ := Lib.hid (HZ.out.trans (hz.mono HZ.out.size))
          clear hz
          go_wp2_with fail
          refine (KW.out _ HZ.out).mono ?_
          rintro e z32 ⟨rfl, hz⟩
          replace HX := Lib.hid (HX.out.same hz)
          replace HZ := Lib.hid (HZ.out.trans (hz.mono HZ.out.size))
          clear hz
          have K3 := Lib.hid (KT.out _ HZ.out (by omega))
          cases hT : same l (l'.take fn) with
          | true =>
            rw [hT] at K3
            have K4 := Lib.hid (fun (w0 : World) (hb : Below w1.heap.size w1 w0) => KS.out w0 hb j hq)
            rw [HT.out (by rw [hl.out]; exact hT) j] at K4
            clear hT
            go_wp2_with fail
            refine (K3.out).mono ?_
            rintro e z33 ⟨rfl, hz⟩
            replace HZ := Lib.hid (HZ.out.trans (hz.mono HZ.out.size))
            clear hz
            go_wp2_with fail
            refine (K4.out _ HZ.out).mono ?_
            rintro e z34 ⟨rfl, hz⟩
            replace HZ := Lib.hid (HZ.out.trans (hz.mono HZ.out.size))
            clear hz
            go_wp2_with fail
            go_roundw
            case rel => exact ⟨j + 1, by omega, by go_num, HZ.out⟩
            case measure => simp [intOf]; omega
          | false =>
            rw [hT] at K3
            clear hT
            go_wp2_with fail
            refine (K3.out).mono ?_
            rintro e z35 ⟨rfl, hz⟩
            replace HZ := Lib.hid (HZ.out.trans (hz.mono HZ.out.size))
            clear hz
            go_wp2_with fail
            go_roundw
            case rel => exact ⟨j + 1, by omega, by go_num, HZ.out⟩
            case measure => simp [intOf]; omega
        · go_wp2_with fail
          go_ret
          exact ⟨rfl, HB.out.trans (HZ.out.mono HB.out.size)⟩
    · have hk1 := hk.is
      have hk2 := hk.fmt
      have hk4 := hk.lies
      have hk3 := hk.same rfl
      rw [hk1] at KBr KN
      rw [hk2] at KF
      rw [hk4] at KW
      rw [hk3] at KE
      rw [hback] at KBb
      clear hk hk1 hk2 hk4 hk3 hback
      go_wp2_with fail
      refine (KBr.out _ HZ.out).mono ?_
      rintro e z36 ⟨rfl, hz⟩
      replace HZ := Lib.hid (HZ.out.trans (hz.mono HZ.out.size))
      clear hz
      go_wp2_with fail
      refine (KN.out _).mono ?_
      rintro e z37 ⟨rfl, hz⟩
      replace HZ := Lib.hid (HZ.out.trans (hz.mono HZ.out.size))
      clear hz
      go_wp2_with fail
      refine (KF.out _ HZ.out).mono ?_
      rintro e z38 ⟨rfl, hz⟩
      replace HZ := Lib.hid (HZ.out.trans (hz.mono HZ.out.size))
      clear hz
      go_wp2_with fail
      refine (KE.out _ HZ.out).mono ?_
      rintro e z39 ⟨rfl, hz⟩
      replace HZ := Lib.hid (HZ.out.trans (hz.mono HZ.out.size))
      clear hz
      go_wp2_with fail
      refine (KBb.out _ HZ.out).mono ?_
      rintro e z40 ⟨rfl, hz⟩
      replace HZ := Lib.hid (HZ.out.trans (hz.mono HZ.out.size))
      clear hz
      go_wp2_with fail
      refine (KW.out _ HZ.out).mono ?_
      rintro e z41 ⟨rfl, hz⟩
      replace HZ := Lib.hid (HZ.out.trans (hz.mono HZ.out.size))
      clear hz
      go_wp2_with fail
      go_loopw [7] (fun i wr => ∃ j : Nat, j ≤ 5 ∧ i = .int .i64 j ∧ Below w1.heap.size w1 wr) (fun i _ => 5 - (intOf i).toNat)
      case atStart => exact ⟨0, by omega, rfl, HZ.out⟩
      case round =>
        obtain ⟨j, hj, rfl, hb⟩ := hrel
        clear HZ
        have HZ := Lib.hid hb
        clear hb
        by_cases hlt : j < 5
        · have hq : Fit64 (j : Int) := fit_mk (by omega) (by omega)
          go_wp2_with fail
          refine (KX.out _ HZ.out j hq).mono ?_
          rintro e z42 ⟨p, k, r, rfl, ho, hz⟩
          have hpr := ho.room
          have hpk : k ≤ 600 := by rw [← ho.len]; exact encOf_few _ _
          have HX := Lib.hid ho.nums
          clear ho
          replace HZ := Lib.hid (HZ.out.trans (hz.mono HZ.out.size))
          clear hz
          go_wp2_with fail
          refine (KW.out _ HZ.out).mono ?_
          rintro e z43 ⟨rfl, hz⟩
          replace HX := Lib.hid (HX.out.same hz)
          replace HZ := Lib.hid (HZ.out.trans (hz.mono HZ.out.size))
          clear hz
          go_wp2_with fail
          go_roundw
          case rel => exact ⟨j + 1, by omega, by go_num, HZ.out⟩
          case measure => simp [intOf]; omega
        · go_wp2_with fail
          go_ret
          exact ⟨rfl, HB.out.trans (HZ.out.mono HB.out.size)⟩
    · have hk1 := hk.is
      have hk2 := hk.fmt
      have hk4 := hk.lies
      rw [hk1] at KBr KN
      rw [hk2] at KF
      rw [hk4] at KW
      clear hk hk1 hk2 hk4
      obtain ⟨kb, hkb⟩ : ∃ kb, brOf l' l = kb := ⟨_, rfl⟩
      rw [hkb] at KBb
      clear hkb
      go_wp2_with fail
      refine (KBr.out _ HZ.out).mono ?_
      rintro e z44 ⟨rfl, hz⟩
      replace HZ := Lib.hid (HZ.out.trans (hz.mono HZ.out.size))
      clear hz
      go_wp2_with fail
      refine (KN.out _).mono ?_
      rintro e z45 ⟨rfl, hz⟩
      replace HZ := Lib.hid (HZ.out.trans (hz.mono HZ.out.size))
      clear hz
      go_wp2_with fail
      refine (KF.out _ HZ.out).mono ?_
      rintro e z46 ⟨rfl, hz⟩
      replace HZ := Lib.hid (HZ.out.trans (hz.mono HZ.out.size))
      clear hz
      go_wp2_with fail
      refine (KBb.out _ HZ.out).mono ?_
      rintro e z47 ⟨rfl, hz⟩
      replace HZ := Lib.hid (HZ.out.trans (hz.mono HZ.out.size))
      clear hz
      go_wp2_with fail
      refine (KW.out _ HZ.out).mono ?_
      rintro e z48 ⟨rfl, hz⟩
      replace HZ := Lib.hid (HZ.out.trans (hz.mono HZ.out.size))
      clear hz
      go_wp2_with fail
      go_loopw [7] (fun i wr => ∃ j : Nat, j ≤ 5 ∧ i = .int .i64 j ∧ Below w1.heap.size w1 wr) (fun i _ => 5 - (intOf i).toNat)
      case atStart => exact ⟨0, by omega, rfl, HZ.out⟩
      case round =>
        obtain ⟨j, hj, rfl, hb⟩ := hrel
        clear HZ
        have HZ := Lib.hid hb
        clear hb
        by_cases hlt : j < 5
        · have hq : Fit64 (j : Int) := fit_mk (by omega) (by omega)
          go_wp2_with fail
          refine (KX.out _ HZ.out j hq).mono ?_
          rintro e z49 ⟨p, k, r, rfl, ho, hz⟩
          have hpr := ho.room
          have hpk : k ≤ 600 := by rw [← ho.len]; exact encOf_few _ _
          have HX := Lib.hid ho.nums
          clear ho
          replace HZ := Lib.hid (HZ.out.trans (hz.mono HZ.out.size))
          clear hz
          go_wp2_with fail
          refine (KW.out _ HZ.out).mono ?_
          rintro e z50 ⟨rfl, hz⟩
          replace HX := Lib.hid (HX.out.same hz)
          replace HZ := Lib.hid (HZ.out.trans (hz.mono HZ.out.size))
          clear hz
          go_wp2_with fail
          go_roundw
          case rel => exact ⟨j + 1, by omega, by go_num, HZ.out⟩
          case measure => simp [intOf]; omega
        · go_wp2_with fail
          go_ret
          exact ⟨rfl, HB.out.trans (HZ.out.mono HB.out.size)⟩
    · have hk1 := hk.is
      have hk2 := hk.fmt
      have hk4 := hk.lies
      have hk3 := hk.same rfl
      rw [hk1] at KBr KN
      rw [hk2] at KF
      rw [hk4] at KW
      rw [hk3] at KE
      clear hk hk1 hk2 hk4 hk3
      obtain ⟨kb, hkb⟩ : ∃ kb, brOf l' l = kb := ⟨_, rfl⟩
      rw [hkb] at KBb
      clear hkb
      go_wp2_with fail
      refine (KBr.out _ HZ.out).mono ?_
      rintro e z51 ⟨rfl, hz⟩
      replace HZ := Lib.hid (HZ.out.trans (hz.mono HZ.out.size))
      clear hz
      go_wp2_with fail
      refine (KN.out _).mono ?_
      rintro e z52 ⟨rfl, hz⟩
      replace HZ := Lib.hid (HZ.out.trans (hz.mono HZ.out.size))
      clear hz
      go_wp2_with fail
      refine (KF.out _ HZ.out).mono ?_
      rintro e z53 ⟨rfl, hz⟩
      replace HZ := Lib.hid (HZ.out.trans (hz.mono HZ.out.size))
      clear hz
      go_wp2_with fail
      refine (KE.out _ HZ.out).mono ?_
      rintro e z54 ⟨rfl, hz⟩
      replace HZ := Lib.hid (HZ.out.trans (hz.mono HZ.out.size))
      clear hz
      go_wp2_with fail
      refine (KBb.out _ HZ.out).mono ?_
      rintro e z55 ⟨rfl, hz⟩
      replace HZ := Lib.hid (HZ.out.trans (hz.mono HZ.out.size))
      clear hz
      go_wp2_with fail
      refine (KW.out _ HZ.out).mono ?_
      rintro e z56 ⟨rfl, hz⟩
      replace HZ := Lib.hid (HZ.out.trans (hz.mono HZ.out.size))
      clear hz
      go_wp2_with fail
      go_loopw [7] (fun i wr => ∃ j : Nat, j ≤ 5 ∧ i = .int .i64 j ∧ Below w1.heap.size w1 wr) (fun i _ => 5 - (intOf i).toNat)
      case atStart => exact ⟨0, by omega, rfl, HZ.out⟩
      case round =>
        obtain ⟨j, hj, rfl, hb⟩ := hrel
        clear HZ
        have HZ := Lib.hid hb
        clear hb
        by_cases hlt : j < 5
        · have hq : Fit64 (j : Int) := fit_mk (by omega) (by omega)
          go_wp2_with fail
          refine (KX.out _ HZ.out j hq).mono ?_
          rintro e z57 ⟨p, k, r, rfl, ho, hz⟩
          have hpr := ho.room
          have hpk : k ≤ 600 := by rw [← ho.len]; exact encOf_few _ _
          have HX := Lib.hid ho.nums
          clear ho
          replace HZ := Lib.hid (HZ.out.trans (hz.mono HZ.out.size))
          clear hz
          go_wp2_with fail
          refine (KW.out _ HZ.out).mono ?_
          rintro e z58 ⟨rfl, hz⟩
          replace HX := Lib.hid (HX.out.same hz)
          replace HZ := Lib.hid (HZ.out.trans (hz.mono HZ.out.size))
          clear hz
          go_wp2_with fail
          go_roundw
          case rel => exact ⟨j + 1, by omega, by go_num, HZ.out⟩
          case measure => simp [intOf]; omega
        · go_wp2_with fail
          go_ret
          exact ⟨rfl, HB.out.trans (HZ.out.mono HB.out.size)⟩

set_option maxRecDepth 100000 in
theorem lifted (os : Os) (started : os.Started) (H : Type) (enc : TypeId × Value → H) :
    ReturnsInHanded {} Try.checked os 3 .any (Rows.fnDiffersSpec.pre6 enc Try.prog Try.f3 Rows.fnDiffersRow.domain false) (Rows.fnDiffersSpec.post enc Try.prog Try.f3 false true false false) := by
  refine returnsInHanded_of_change (C := Try.checked) own started (by kernel_rfl) Try.func3
    (ChangeSpec.witness6 (enc := enc) (C := Try.checked) false ⟨#[], #[.slice none 0 0], []⟩ 8 (by kernel_rfl) (by kernel_rfl) (by kernel_rfl) (by kernel_rfl)) ?_
  intro W base args ds gs before hval0 hW hcnd _
  have hval : ∀ (j : Nat) t v, Try.f3.params[j]? = some t → args[j]? = some v → Value.okWide Try.prog W .any base t v := hval0
  have hW' := hW
  obtain ⟨p, q, hA0, hV, rfl, hfz, hnd⟩ := hW
  have hA : DataW.TrodAll enc Try.prog W 0 (fun _ => true) true Try.f3.params.toList args.toList ds p := hA0
  rw [Try.params3] at hA hval
  obtain ⟨v0, vs0, d0, ds0, p0, q0, hargs, rfl, rfl, h0, r0⟩ := trodAll_cons hA
  obtain ⟨rfl, rfl, rfl⟩ := trodAll_nil r0
  obtain rfl : args = #[v0] := by cases args; simp_all
  obtain ⟨rfl, rfl⟩ := trodVars_none hV
  have h0k := h0
  have hlt0 : ∀ x ∈ p0, x.block < W.heap.size := fun x hx => by simpa using hW'.lt x (by simp [hx])
  obtain ⟨a0, n0, c0, l0, rfl, K0, F0, R0⟩ := open_nums Try.underlying22 Try.underlying5 byte_cells (hval 0 22 v0 rfl rfl) h0
  clear hA0 hval0
  simp only [List.append_nil] at hW'
  refine (walk a0 n0 c0 l0 W K0 F0 R0).mono fun e W' ⟨he, hb⟩ => ?_
  subst he
  exact ⟨_, rfl, ⟨_, _, _, [], _, [], hW', (trodAll_cons_mk (shut_bool Try.underlying4 _) trodAll_mk0), (trodAll_cons_mk (Below.trod laidOut (by kernel_rfl) (of_decide_eq_true (by kernel_rfl)) h0k hb hlt0) trodAll_mk0), rfl, hb.frame _, fun h => by cases h⟩⟩

theorem over : Rows.fnDiffersRow.holds Try.pinned (OpenSpec.ofChange Rows.fnDiffersSpec) :=
  OpenClaim.holds_of_wide 3 Try.f3 rfl rfl rfl rfl rfl rfl rfl ⟨rfl, rfl, rfl, rfl, rfl⟩ rfl rfl rfl rfl rfl (by kernel_rfl) Try.func3 (by kernel_rfl)
    (of_decide_eq_true (by kernel_rfl)) (by unfold Func.isWrapper; first | (rw [if_pos (by decide +kernel)]; kernel_rfl) | (rw [if_neg (by decide +kernel)]; exact ⟨rfl, rfl⟩))
    (fun os started H enc _ => lifted os started H enc)

theorem proved : Rows.FnDiffersSaid :=
  over
end Go.Proofs.Ytjkjnhkamieljaa.fnDiffers
