/- For every input of bytes: what is added has a reserved tag and changes neither what is known nor what is left without reserved tags; what has no reserved tag any more stays as it is. -/
import Derived.Test.YtgkacnngodamgaaG1
import Derived.Test.YtgkacnngodamgaaG14
import Derived.Test.YtgkacnngodamgaaG12
import Derived.Test.YtgkacnngodamgaaG13
import Derived.Test.YtgkacnngodamgaaG16
import Derived.Test.YtgkacnngodamgaaG17
import Derived.WalkKit
import Derived.Deep.RegionHeld3
import Derived.ProofKit
import Derived.OpenShut
namespace Go.Proofs.Ytgkacnngodamgaa.fnGrease
open Go.ChangeShapes Go.WideShapes Go.ChangeAt Go.RowKit Go.Lib
open Go.ChangeMaps (open_string shut_string)
set_option linter.unusedVariables false

theorem own : ownKnob Try.prog.godebug = none := by kernel_rfl

set_option maxHeartbeats 40000000 in
set_option maxRecDepth 100000 in
theorem walk (a0 : Option Addr) (n0 c0 : Nat) (l0 : List Int) (w : World) (K0 : Nums .u8 w a0 n0 l0) (F0 : ∀ x ∈ l0, (Lit.int .u8 x).wf = true) (R0 : n0 ≤ c0 ∧ (c0 : Int) ≤ 9223372036854775807) :
    Calls Try.prog 4 #[.slice a0 n0 c0] w fun e w' => e = .returned (.bool true) ∧ Below w.heap.size w w' := by
  have HK0 := Lib.hid K0
  have HF := Lib.hid (bs_of_wf F0)
  have hfit := K0.fits
  clear K0 F0 R0
  by_cases hbig : 1048576 < n0
  · go_enter Try.func4, Try.ntmps4
    go_wp2_with fail
    refine (big_yes a0 n0 c0 hfit hbig _).mono ?_
    rintro e w1 ⟨rfl, rfl⟩
    go_wp2_with fail
    go_ret
    exact ⟨rfl, Below.refl _ _⟩
  · have HC := Lib.hid (code_of HK0.out HF.out)
    have HB := Lib.hid (Below.refl w.heap.size w)
    go_enter Try.func4, Try.ntmps4
    go_wp2_with fail
    refine (big_no a0 n0 c0 hfit hbig _).mono ?_
    rintro e w1 ⟨rfl, rfl⟩
    clear hfit hbig HK0 HF
    go_wp2_with fail
    refine (drawAddGrease_any a0 n0 c0 _ HC.out).mono ?_
    rintro e z1 ⟨ao, m, co, v, s, rfl, ho, hm6, hv, hs0, hs1, hz⟩
    have hl := ho.len
    have hli := vok_items hv
    have HWV := Lib.hid (vok_tags hv)
    have HS : Hid (Fit64 s) := Lib.hid (fit_mk (by omega) (by omega))
    clear hv
    replace HC := Lib.hid (HC.out.same hz)
    have HL := Lib.hid ho
    replace HB := Lib.hid (HB.out.trans (hz.mono HB.out.size))
    clear hz ho
    go_wp2_with fail
    refine (addGrease_any (c := co) s HS.out HL.out.vals HWV.out (by omega) (by omega)).mono ?_
    rintro e z2 ⟨qx, mx, cx, rfl, hox, hz⟩
    have hxl := hox.len
    have hxn := addX_len v s
    have hxi := addX_items v s
    have ht := tagG_in s
    have HTW : Hid ((Lit.int .i64 (tagG s)).wf = true) := Lib.hid (fit_mk (by omega) (by omega))
    have HWX : Hid (∀ z ∈ tagsX (addX v s), (Lit.int .i64 z).wf = true) := Lib.hid (fun z hz9 => by
      rcases addX_mem hz9 with q | q
      · exact HWV.out z q
      · rw [q]; exact HTW.out)
    replace HC := Lib.hid (HC.out.same hz)
    replace HL := Lib.hid (HL.out.same hz)
    have HX := Lib.hid hox
    replace HB := Lib.hid (HB.out.trans (hz.mono HB.out.size))
    clear hz hox
    go_wp2_with fail
    refine (greaseTag_any s HS.out _).mono ?_
    rintro e z3 ⟨rfl, hz⟩
    replace HC := Lib.hid (HC.out.same hz)
    replace HL := Lib.hid (HL.out.same hz)
    replace HX := Lib.hid (HX.out.same hz)
    replace HB := Lib.hid (HB.out.trans (hz.mono HB.out.size))
    clear hz 
    go_wp2_with fail
    refine (told_bool (tagG_resv s) (told_resv (tagG s) _)).mono ?_
    rintro e z4 ⟨rfl, hz⟩
    replace HC := Lib.hid (HC.out.same hz)
    replace HL := Lib.hid (HL.out.same hz)
    replace HX := Lib.hid (HX.out.same hz)
    replace HB := Lib.hid (HB.out.trans (hz.mono HB.out.size))
    clear hz 
    cases ha : areX v with
    | true =>
      go_wp2_with fail
      refine (told_bool ha (areExts_any (c := co) HL.out.vals)).mono ?_
      rintro e z5 ⟨rfl, hz⟩
      replace HC := Lib.hid (HC.out.same hz)
      replace HL := Lib.hid (HL.out.same hz)
      replace HX := Lib.hid (HX.out.same hz)
      replace HB := Lib.hid (HB.out.trans (hz.mono HB.out.size))
      clear hz 
      go_wp2_with fail
      refine (told_bool (addX_are ha) (areExts_any (c := cx) HX.out.vals)).mono ?_
      rintro e z6 ⟨rfl, hz⟩
      replace HC := Lib.hid (HC.out.same hz)
      replace HL := Lib.hid (HL.out.same hz)
      replace HX := Lib.hid (HX.out.same hz)
      replace HB := Lib.hid (HB.out.trans (hz.mono HB.out.size))
      clear hz 
      go_wp2_with fail
      refine (stripGrease_any (c := cx) HX.out.vals HWX.out (by omega) (by omega)).mono ?_
      rintro e z7 ⟨a1, m1, c1, rfl, ho1, hz⟩
      rw [strX_add] at ho1
      replace HC := Lib.hid (HC.out.same hz)
      replace HL := Lib.hid (HL.out.same hz)
      replace HX := Lib.hid (HX.out.same hz)
      have HA := Lib.hid ho1
      replace HB := Lib.hid (HB.out.trans (hz.mono HB.out.size))
      clear hz ho1
      go_wp2_with fail
      refine (stripGrease_any (c := co) HL.out.vals HWV.out (by omega) (by omega)).mono ?_
      rintro e z8 ⟨a2, m2, c2, rfl, ho2, hz⟩
      replace HC := Lib.hid (HC.out.same hz)
      replace HL := Lib.hid (HL.out.same hz)
      replace HX := Lib.hid (HX.out.same hz)
      replace HA := Lib.hid (HA.out.same hz)
      have HD := Lib.hid ho2
      replace HB := Lib.hid (HB.out.trans (hz.mono HB.out.size))
      clear hz ho2
      go_wp2_with fail
      refine (equalExts_yes (c := c1) (d := c2) HA.out.vals HD.out.vals).mono ?_
      rintro e z9 ⟨rfl, hz⟩
      replace HC := Lib.hid (HC.out.same hz)
      replace HL := Lib.hid (HL.out.same hz)
      replace HX := Lib.hid (HX.out.same hz)
      replace HB := Lib.hid (HB.out.trans (hz.mono HB.out.size))
      clear hz 
      go_wp2_with fail
      have hal := alloc_same z9 (.cells #[.int .i64 1, .int .i64 2, .int .i64 3, .int .i64 40, .int .i64 200] 3)
      replace HC := Lib.hid (HC.out.same hal)
      replace HL := Lib.hid (HL.out.same hal)
      replace HX := Lib.hid (HX.out.same hal)
      replace HB := Lib.hid (HB.out.trans (hal.mono HB.out.size))
      have HN : Hid (Nums .i64 (z9.alloc (.cells #[.int .i64 1, .int .i64 2, .int .i64 3, .int .i64 40, .int .i64 200] 3)) (some ⟨z9.heap.size, 0, none⟩) 5 [1, 2, 3, 40, 200]) := Lib.hid (nums_lit z9 [1, 2, 3, 40, 200] 3 (by simp))
      clear hal
      refine (knownOf_any (c := cx) (d := 5) HX.out.vals HN.out HWX.out five_wf (by omega) (by omega) (by omega)).mono ?_
      rintro e z10 ⟨a3, m3, c3, rfl, ho3, hz⟩
      rw [known_five] at ho3
      replace HC := Lib.hid (HC.out.same hz)
      replace HL := Lib.hid (HL.out.same hz)
      replace HX := Lib.hid (HX.out.same hz)
      replace HN := Lib.hid (HN.out.same hz)
      have HA := Lib.hid ho3
      replace HB := Lib.hid (HB.out.trans (hz.mono HB.out.size))
      clear hz ho3
      go_wp2_with fail
      refine (knownOf_any (c := co) (d := 5) HL.out.vals HN.out HWV.out five_wf (by omega) (by omega) (by omega)).mono ?_
      rintro e z11 ⟨a4, m4, c4, rfl, ho4, hz⟩
      replace HC := Lib.hid (HC.out.same hz)
      replace HL := Lib.hid (HL.out.same hz)
      replace HX := Lib.hid (HX.out.same hz)
      replace HA := Lib.hid (HA.out.same hz)
      have HD := Lib.hid ho4
      replace HB := Lib.hid (HB.out.trans (hz.mono HB.out.size))
      clear hz ho4
      go_wp2_with fail
      refine (equalExts_yes (c := c3) (d := c4) HA.out.vals HD.out.vals).mono ?_
      rintro e z12 ⟨rfl, hz⟩
      replace HC := Lib.hid (HC.out.same hz)
      replace HL := Lib.hid (HL.out.same hz)
      replace HX := Lib.hid (HX.out.same hz)
      replace HB := Lib.hid (HB.out.trans (hz.mono HB.out.size))
      clear hz 
      go_wp2_with fail
      refine (told_bool ha (areExts_any (c := co) HL.out.vals)).mono ?_
      rintro e z13 ⟨rfl, hz⟩
      replace HC := Lib.hid (HC.out.same hz)
      replace HX := Lib.hid (HX.out.same hz)
      replace HB := Lib.hid (HB.out.trans (hz.mono HB.out.size))
      clear hz 
      by_cases h6 : m < 6
      · have hmz : (m : Int) < 6 := by omega
        go_wp2_with fail
        refine (extOf_any (c := cx) (tagG s) HTW.out HX.out.vals HWX.out (by omega)).mono ?_
        rintro e z14 ⟨rfl, hz⟩
        skip
        replace HC := Lib.hid (HC.out.same hz)
        replace HB := Lib.hid (HB.out.trans (hz.mono HB.out.size))
        clear hz 
        rw [extOf_yes (add_tag ha (by omega))]
        generalize (tagsX (addX v s)).idxOf (tagG s) = ix
        have hix : ¬ ((ix : Int) < 0) := by omega
        go_wp2_with fail
        refine (drawStripGrease_any a0 n0 c0 _ HC.out).mono ?_
        rintro e z15 ⟨ay, my, cy, y, rfl, hoy, hmy, hvy, hz⟩
        have hyl := hoy.len
        have hyi := vok_items hvy
        have HWY := Lib.hid (vok_tags hvy)
        clear hvy
        have HY := Lib.hid hoy
        replace HB := Lib.hid (HB.out.trans (hz.mono HB.out.size))
        clear hz hoy
        go_wp2_with fail
        refine (stripGrease_any (c := cy) HY.out.vals HWY.out (by omega) (by omega)).mono ?_
        rintro e z16 ⟨az, mz, cz, rfl, hoz, hz⟩
        have hzl := hoz.len
        have hzf := strX_few y
        have hzi : itemsOf (strX y) ≤ itemsOf y := wh_items (fun t => !resv t) y
        have HWZ : Hid (∀ z ∈ tagsX (strX y), (Lit.int .i64 z).wf = true) := Lib.hid (fun z hz9 => HWY.out z (str_mem hz9))
        replace HY := Lib.hid (HY.out.same hz)
        have HZ := Lib.hid hoz
        replace HB := Lib.hid (HB.out.trans (hz.mono HB.out.size))
        clear hz hoz
        go_wp2_with fail
        refine (hasGrease_any (c := cy) HY.out.vals (by omega)).mono ?_
        rintro e z17 ⟨rfl, hz⟩
        replace HY := Lib.hid (HY.out.same hz)
        replace HZ := Lib.hid (HZ.out.same hz)
        replace HB := Lib.hid (HB.out.trans (hz.mono HB.out.size))
        clear hz 
        go_wp2_with fail
        refine (tagsOf_any (c := cy) HY.out.vals (by omega)).mono ?_
        rintro e z18 ⟨at_, mt, ct, rfl, hot, hz⟩
        replace HZ := Lib.hid (HZ.out.same hz)
        have HT := Lib.hid hot
        replace HB := Lib.hid (HB.out.trans (hz.mono HB.out.size))
        clear hz hot
        go_wp2_with fail
        refine (told_bool (show (tagsX y).any resv = hasG y from rfl) (isHardened_any (c := ct) HT.out.nums)).mono ?_
        rintro e z19 ⟨rfl, hz⟩
        replace HZ := Lib.hid (HZ.out.same hz)
        replace HB := Lib.hid (HB.out.trans (hz.mono HB.out.size))
        clear hz 
        generalize hasG y = bb
        have hbb : (bb == bb) = true := by simp
        go_wp2_with fail
        refine (told_bool (hasG_str y) (hasGrease_any (c := cz) HZ.out.vals (by omega))).mono ?_
        rintro e z20 ⟨rfl, hz⟩
        replace HZ := Lib.hid (HZ.out.same hz)
        replace HB := Lib.hid (HB.out.trans (hz.mono HB.out.size))
        clear hz 
        go_wp2_with fail
        refine (stripGrease_any (c := cz) HZ.out.vals HWZ.out (by omega) (by omega)).mono ?_
        rintro e z21 ⟨aq, mq, cq, rfl, hoq, hz⟩
        rw [strX_twice] at hoq
        replace HZ := Lib.hid (HZ.out.same hz)
        have HQ := Lib.hid hoq
        replace HB := Lib.hid (HB.out.trans (hz.mono HB.out.size))
        clear hz hoq
        go_wp2_with fail
        refine (equalExts_yes (c := cq) (d := cz) HQ.out.vals HZ.out.vals).mono ?_
        rintro e z22 ⟨rfl, hz⟩
        replace HB := Lib.hid (HB.out.trans (hz.mono HB.out.size))
        clear hz 
        go_wp2_with fail
        go_ret
        exact ⟨rfl, HB.out⟩
      · have hmz : ¬ (m : Int) < 6 := by omega
        go_wp2_with fail
        refine (drawStripGrease_any a0 n0 c0 _ HC.out).mono ?_
        rintro e z23 ⟨ay, my, cy, y, rfl, hoy, hmy, hvy, hz⟩
        have hyl := hoy.len
        have hyi := vok_items hvy
        have HWY := Lib.hid (vok_tags hvy)
        clear hvy
        have HY := Lib.hid hoy
        replace HB := Lib.hid (HB.out.trans (hz.mono HB.out.size))
        clear hz hoy
        go_wp2_with fail
        refine (stripGrease_any (c := cy) HY.out.vals HWY.out (by omega) (by omega)).mono ?_
        rintro e z24 ⟨az, mz, cz, rfl, hoz, hz⟩
        have hzl := hoz.len
        have hzf := strX_few y
        have hzi : itemsOf (strX y) ≤ itemsOf y := wh_items (fun t => !resv t) y
        have HWZ : Hid (∀ z ∈ tagsX (strX y), (Lit.int .i64 z).wf = true) := Lib.hid (fun z hz9 => HWY.out z (str_mem hz9))
        replace HY := Lib.hid (HY.out.same hz)
        have HZ := Lib.hid hoz
        replace HB := Lib.hid (HB.out.trans (hz.mono HB.out.size))
        clear hz hoz
        go_wp2_with fail
        refine (hasGrease_any (c := cy) HY.out.vals (by omega)).mono ?_
        rintro e z25 ⟨rfl, hz⟩
        replace HY := Lib.hid (HY.out.same hz)
        replace HZ := Lib.hid (HZ.out.same hz)
        replace HB := Lib.hid (HB.out.trans (hz.mono HB.out.size))
        clear hz 
        go_wp2_with fail
        refine (tagsOf_any (c := cy) HY.out.vals (by omega)).mono ?_
        rintro e z26 ⟨at_, mt, ct, rfl, hot, hz⟩
        replace HZ := Lib.hid (HZ.out.same hz)
        have HT := Lib.hid hot
        replace HB := Lib.hid (HB.out.trans (hz.mono HB.out.size))
        clear hz hot
        go_wp2_with fail
        refine (told_bool (show (tagsX y).any resv = hasG y from rfl) (isHardened_any (c := ct) HT.out.nums)).mono ?_
        rintro e z27 ⟨rfl, hz⟩
        replace HZ := Lib.hid (HZ.out.same hz)
        replace HB := Lib.hid (HB.out.trans (hz.mono HB.out.size))
        clear hz 
        generalize hasG y = bb
        have hbb : (bb == bb) = true := by simp
        go_wp2_with fail
        refine (told_bool (hasG_str y) (hasGrease_any (c := cz) HZ.out.vals (by omega))).mono ?_
        rintro e z28 ⟨rfl, hz⟩
        replace HZ := Lib.hid (HZ.out.same hz)
        replace HB := Lib.hid (HB.out.trans (hz.mono HB.out.size))
        clear hz 
        go_wp2_with fail
        refine (stripGrease_any (c := cz) HZ.out.vals HWZ.out (by omega) (by omega)).mono ?_
        rintro e z29 ⟨aq, mq, cq, rfl, hoq, hz⟩
        rw [strX_twice] at hoq
        replace HZ := Lib.hid (HZ.out.same hz)
        have HQ := Lib.hid hoq
        replace HB := Lib.hid (HB.out.trans (hz.mono HB.out.size))
        clear hz hoq
        go_wp2_with fail
        refine (equalExts_yes (c := cq) (d := cz) HQ.out.vals HZ.out.vals).mono ?_
        rintro e z30 ⟨rfl, hz⟩
        replace HB := Lib.hid (HB.out.trans (hz.mono HB.out.size))
        clear hz 
        go_wp2_with fail
        go_ret
        exact ⟨rfl, HB.out⟩
    | false =>
      go_wp2_with fail
      refine (told_bool ha (areExts_any (c := co) HL.out.vals)).mono ?_
      rintro e z31 ⟨rfl, hz⟩
      replace HC := Lib.hid (HC.out.same hz)
      replace HL := Lib.hid (HL.out.same hz)
      replace HX := Lib.hid (HX.out.same hz)
      replace HB := Lib.hid (HB.out.trans (hz.mono HB.out.size))
      clear hz 
      go_wp2_with fail
      refine (stripGrease_any (c := cx) HX.out.vals HWX.out (by omega) (by omega)).mono ?_
      rintro e z32 ⟨a1, m1, c1, rfl, ho1, hz⟩
      rw [strX_add] at ho1
      replace HC := Lib.hid (HC.out.same hz)
      replace HL := Lib.hid (HL.out.same hz)
      replace HX := Lib.hid (HX.out.same hz)
      have HA := Lib.hid ho1
      replace HB := Lib.hid (HB.out.trans (hz.mono HB.out.size))
      clear hz ho1
      go_wp2_with fail
      refine (stripGrease_any (c := co) HL.out.vals HWV.out (by omega) (by omega)).mono ?_
      rintro e z33 ⟨a2, m2, c2, rfl, ho2, hz⟩
      replace HC := Lib.hid (HC.out.same hz)
      replace HL := Lib.hid (HL.out.same hz)
      replace HX := Lib.hid (HX.out.same hz)
      replace HA := Lib.hid (HA.out.same hz)
      have HD := Lib.hid ho2
      replace HB := Lib.hid (HB.out.trans (hz.mono HB.out.size))
      clear hz ho2
      go_wp2_with fail
      refine (equalExts_yes (c := c1) (d := c2) HA.out.vals HD.out.vals).mono ?_
      rintro e z34 ⟨rfl, hz⟩
      replace HC := Lib.hid (HC.out.same hz)
      replace HL := Lib.hid (HL.out.same hz)
      replace HX := Lib.hid (HX.out.same hz)
      replace HB := Lib.hid (HB.out.trans (hz.mono HB.out.size))
      clear hz 
      go_wp2_with fail
      have hal := alloc_same z34 (.cells #[.int .i64 1, .int .i64 2, .int .i64 3, .int .i64 40, .int .i64 200] 3)
      replace HC := Lib.hid (HC.out.same hal)
      replace HL := Lib.hid (HL.out.same hal)
      replace HX := Lib.hid (HX.out.same hal)
      replace HB := Lib.hid (HB.out.trans (hal.mono HB.out.size))
      have HN : Hid (Nums .i64 (z34.alloc (.cells #[.int .i64 1, .int .i64 2, .int .i64 3, .int .i64 40, .int .i64 200] 3)) (some ⟨z34.heap.size, 0, none⟩) 5 [1, 2, 3, 40, 200]) := Lib.hid (nums_lit z34 [1, 2, 3, 40, 200] 3 (by simp))
      clear hal
      refine (knownOf_any (c := cx) (d := 5) HX.out.vals HN.out HWX.out five_wf (by omega) (by omega) (by omega)).mono ?_
      rintro e z35 ⟨a3, m3, c3, rfl, ho3, hz⟩
      rw [known_five] at ho3
      replace HC := Lib.hid (HC.out.same hz)
      replace HL := Lib.hid (HL.out.same hz)
      replace HX := Lib.hid (HX.out.same hz)
      replace HN := Lib.hid (HN.out.same hz)
      have HA := Lib.hid ho3
      replace HB := Lib.hid (HB.out.trans (hz.mono HB.out.size))
      clear hz ho3
      go_wp2_with fail
      refine (knownOf_any (c := co) (d := 5) HL.out.vals HN.out HWV.out five_wf (by omega) (by omega) (by omega)).mono ?_
      rintro e z36 ⟨a4, m4, c4, rfl, ho4, hz⟩
      replace HC := Lib.hid (HC.out.same hz)
      replace HL := Lib.hid (HL.out.same hz)
      replace HX := Lib.hid (HX.out.same hz)
      replace HA := Lib.hid (HA.out.same hz)
      have HD := Lib.hid ho4
      replace HB := Lib.hid (HB.out.trans (hz.mono HB.out.size))
      clear hz ho4
      go_wp2_with fail
      refine (equalExts_yes (c := c3) (d := c4) HA.out.vals HD.out.vals).mono ?_
      rintro e z37 ⟨rfl, hz⟩
      replace HC := Lib.hid (HC.out.same hz)
      replace HL := Lib.hid (HL.out.same hz)
      replace HX := Lib.hid (HX.out.same hz)
      replace HB := Lib.hid (HB.out.trans (hz.mono HB.out.size))
      clear hz 
      go_wp2_with fail
      refine (told_bool ha (areExts_any (c := co) HL.out.vals)).mono ?_
      rintro e z38 ⟨rfl, hz⟩
      replace HC := Lib.hid (HC.out.same hz)
      replace HX := Lib.hid (HX.out.same hz)
      replace HB := Lib.hid (HB.out.trans (hz.mono HB.out.size))
      clear hz 
      go_wp2_with fail
      refine (drawStripGrease_any a0 n0 c0 _ HC.out).mono ?_
      rintro e z39 ⟨ay, my, cy, y, rfl, hoy, hmy, hvy, hz⟩
      have hyl := hoy.len
      have hyi := vok_items hvy
      have HWY := Lib.hid (vok_tags hvy)
      clear hvy
      have HY := Lib.hid hoy
      replace HB := Lib.hid (HB.out.trans (hz.mono HB.out.size))
      clear hz hoy
      go_wp2_with fail
      refine (stripGrease_any (c := cy) HY.out.vals HWY.out (by omega) (by omega)).mono ?_
      rintro e z40 ⟨az, mz, cz, rfl, hoz, hz⟩
      have hzl := hoz.len
      have hzf := strX_few y
      have hzi : itemsOf (strX y) ≤ itemsOf y := wh_items (fun t => !resv t) y
      have HWZ : Hid (∀ z ∈ tagsX (strX y), (Lit.int .i64 z).wf = true) := Lib.hid (fun z hz9 => HWY.out z (str_mem hz9))
      replace HY := Lib.hid (HY.out.same hz)
      have HZ := Lib.hid hoz
      replace HB := Lib.hid (HB.out.trans (hz.mono HB.out.size))
      clear hz hoz
      go_wp2_with fail
      refine (hasGrease_any (c := cy) HY.out.vals (by omega)).mono ?_
      rintro e z41 ⟨rfl, hz⟩
      replace HY := Lib.hid (HY.out.same hz)
      replace HZ := Lib.hid (HZ.out.same hz)
      replace HB := Lib.hid (HB.out.trans (hz.mono HB.out.size))
      clear hz 
      go_wp2_with fail
      refine (tagsOf_any (c := cy) HY.out.vals (by omega)).mono ?_
      rintro e z42 ⟨at_, mt, ct, rfl, hot, hz⟩
      replace HZ := Lib.hid (HZ.out.same hz)
      have HT := Lib.hid hot
      replace HB := Lib.hid (HB.out.trans (hz.mono HB.out.size))
      clear hz hot
      go_wp2_with fail
      refine (told_bool (show (tagsX y).any resv = hasG y from rfl) (isHardened_any (c := ct) HT.out.nums)).mono ?_
      rintro e z43 ⟨rfl, hz⟩
      replace HZ := Lib.hid (HZ.out.same hz)
      replace HB := Lib.hid (HB.out.trans (hz.mono HB.out.size))
      clear hz 
      generalize hasG y = bb
      have hbb : (bb == bb) = true := by simp
      go_wp2_with fail
      refine (told_bool (hasG_str y) (hasGrease_any (c := cz) HZ.out.vals (by omega))).mono ?_
      rintro e z44 ⟨rfl, hz⟩
      replace HZ := Lib.hid (HZ.out.same hz)
      replace HB := Lib.hid (HB.out.trans (hz.mono HB.out.size))
      clear hz 
      go_wp2_with fail
      refine (stripGrease_any (c := cz) HZ.out.vals HWZ.out (by omega) (by omega)).mono ?_
      rintro e z45 ⟨aq, mq, cq, rfl, hoq, hz⟩
      rw [strX_twice] at hoq
      replace HZ := Lib.hid (HZ.out.same hz)
      have HQ := Lib.hid hoq
      replace HB := Lib.hid (HB.out.trans (hz.mono HB.out.size))
      clear hz hoq
      go_wp2_with fail
      refine (equalExts_yes (c := cq) (d := cz) HQ.out.vals HZ.out.vals).mono ?_
      rintro e z46 ⟨rfl, hz⟩
      replace HB := Lib.hid (HB.out.trans (hz.mono HB.out.size))
      clear hz 
      go_wp2_with fail
      go_ret
      exact ⟨rfl, HB.out⟩

set_option maxRecDepth 100000 in
theorem lifted (os : Os) (started : os.Started) (H : Type) (enc : TypeId × Value → H) :
    ReturnsInHanded {} Try.checked os 4 .any (Rows.fnGreaseSpec.pre6 enc Try.prog Try.f4 Rows.fnGreaseRow.domain false) (Rows.fnGreaseSpec.post enc Try.prog Try.f4 false true false false) := by
  refine returnsInHanded_of_change (C := Try.checked) own started (by kernel_rfl) Try.func4
    (ChangeSpec.witness6 (enc := enc) (C := Try.checked) false ⟨#[], #[.slice none 0 0], []⟩ 8 (by kernel_rfl) (by kernel_rfl) (by kernel_rfl) (by kernel_rfl)) ?_
  intro W base args ds gs before hval0 hW hcnd _
  have hval : ∀ (j : Nat) t v, Try.f4.params[j]? = some t → args[j]? = some v → Value.okWide Try.prog W .any base t v := hval0
  have hW' := hW
  obtain ⟨p, q, hA0, hV, rfl, hfz, hnd⟩ := hW
  have hA : DataW.TrodAll enc Try.prog W 0 (fun _ => true) true Try.f4.params.toList args.toList ds p := hA0
  rw [Try.params4] at hA hval
  obtain ⟨v0, vs0, d0, ds0, p0, q0, hargs, rfl, rfl, h0, r0⟩ := trodAll_cons hA
  obtain ⟨rfl, rfl, rfl⟩ := trodAll_nil r0
  obtain rfl : args = #[v0] := by cases args; simp_all
  obtain ⟨rfl, rfl⟩ := trodVars_none hV
  have h0k := h0
  have hlt0 : ∀ x ∈ p0, x.block < W.heap.size := fun x hx => by simpa using hW'.lt x (by simp [hx])
  obtain ⟨a0, n0, c0, l0, rfl, K0, F0, R0⟩ := open_nums Try.underlying22 Try.underlying5 byte_cells (hval 0 22 v0 rfl rfl) h0
  clear hA0 hval0
  simp only [List.append_nil] at hW'
  refine (walk a0 n0 c0 l0 W K0 F0 R0).mono fun e W' ⟨he, hb⟩ => ?_
  subst he
  exact ⟨_, rfl, ⟨_, _, _, [], _, [], hW', (trodAll_cons_mk (shut_bool Try.underlying4 _) trodAll_mk0), (trodAll_cons_mk (Below.trod laidOut (by kernel_rfl) (of_decide_eq_true (by kernel_rfl)) h0k hb hlt0) trodAll_mk0), rfl, hb.frame _, fun h => by cases h⟩⟩

theorem over : Rows.fnGreaseRow.holds Try.pinned (OpenSpec.ofChange Rows.fnGreaseSpec) :=
  OpenClaim.holds_of_wide 4 Try.f4 rfl rfl rfl rfl rfl rfl rfl ⟨rfl, rfl, rfl, rfl, rfl⟩ rfl rfl rfl rfl rfl (by kernel_rfl) Try.func4 (by kernel_rfl)
    (of_decide_eq_true (by kernel_rfl)) (by unfold Func.isWrapper; first | (rw [if_pos (by decide +kernel)]; kernel_rfl) | (rw [if_neg (by decide +kernel)]; exact ⟨rfl, rfl⟩))
    (fun os started H enc _ => lifted os started H enc)

theorem proved : Rows.FnGreaseSaid :=
  over
end Go.Proofs.Ytgkacnngodamgaa.fnGrease
