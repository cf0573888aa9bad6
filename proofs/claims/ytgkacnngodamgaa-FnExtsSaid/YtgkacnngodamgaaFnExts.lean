/- For every input of bytes: drawn extensions are read as they were written, what is read is written again as it was, and what is known and what is left make up the whole. -/
import Derived.Test.YtgkacnngodamgaaG1
import Derived.Test.YtgkacnngodamgaaG11
import Derived.Test.YtgkacnngodamgaaG12
import Derived.Test.YtgkacnngodamgaaG13
import Derived.WalkKit
import Derived.Deep.RegionHeld3
import Derived.ProofKit
import Derived.OpenShut
namespace Go.Proofs.Ytgkacnngodamgaa.fnExts
open Go.ChangeShapes Go.WideShapes Go.ChangeAt Go.RowKit Go.Lib
open Go.ChangeMaps (open_string shut_string)
set_option linter.unusedVariables false

theorem own : ownKnob Try.prog.godebug = none := by kernel_rfl

set_option maxHeartbeats 40000000 in
set_option maxRecDepth 100000 in
theorem walk (a0 : Option Addr) (n0 c0 : Nat) (l0 : List Int) (w : World) (K0 : Nums .u8 w a0 n0 l0) (F0 : ∀ x ∈ l0, (Lit.int .u8 x).wf = true) (R0 : n0 ≤ c0 ∧ (c0 : Int) ≤ 9223372036854775807) :
    Calls Try.prog 3 #[.slice a0 n0 c0] w fun e w' => e = .returned (.bool true) ∧ Below w.heap.size w w' := by
  have HK0 := Lib.hid K0
  have HF := Lib.hid (bs_of_wf F0)
  have hfit := K0.fits
  clear K0 F0 R0
  by_cases hbig : 1048576 < n0
  · go_enter Try.func3, Try.ntmps3
    go_wp2_with fail
    refine (big_yes a0 n0 c0 hfit hbig _).mono ?_
    rintro e w1 ⟨rfl, rfl⟩
    go_wp2_with fail
    go_ret
    exact ⟨rfl, Below.refl _ _⟩
  · have HC := Lib.hid (code_of HK0.out HF.out)
    have HB := Lib.hid (Below.refl w.heap.size w)
    go_enter Try.func3, Try.ntmps3
    go_wp2_with fail
    refine (big_no a0 n0 c0 hfit hbig _).mono ?_
    rintro e w1 ⟨rfl, rfl⟩
    clear hfit hbig HK0 HF
    go_wp2_with fail
    refine (drawEncodeExts_any a0 n0 c0 _ HC.out).mono ?_
    rintro e z1 ⟨ao, m, co, v, rfl, ho, hm6, hv, hz⟩
    replace HC := Lib.hid (HC.out.same hz)
    have HL := Lib.hid ho
    replace HB := Lib.hid (HB.out.trans (hz.mono HB.out.size))
    clear hz ho hv
    cases ha : areX v with
    | true =>
      go_wp2_with fail
      refine (encE_yes (c := co) ha HL.out.vals).mono ?_
      rintro e z2 ⟨q1, m1, d1, rfl, ho1, hz⟩
      replace HC := Lib.hid (HC.out.same hz)
      replace HL := Lib.hid (HL.out.same hz)
      have HQ := Lib.hid ho1
      replace HB := Lib.hid (HB.out.trans (hz.mono HB.out.size))
      clear hz ho1
      go_wp2_with fail
      refine (told_bool ha (areExts_any (c := co) HL.out.vals)).mono ?_
      rintro e z3 ⟨rfl, hz⟩
      replace HC := Lib.hid (HC.out.same hz)
      replace HL := Lib.hid (HL.out.same hz)
      replace HQ := Lib.hid (HQ.out.same hz)
      replace HB := Lib.hid (HB.out.trans (hz.mono HB.out.size))
      clear hz 
      have hq1 := HQ.out.len
      have hq2 := encX_few ha
      go_wp2_with fail
      refine (decE_yes (dec_of_enc ha) HQ.out.nums HQ.out.room (by omega)).mono ?_
      rintro e z4 ⟨q2, m2, d2, rfl, ho2, hz⟩
      replace HC := Lib.hid (HC.out.same hz)
      replace HL := Lib.hid (HL.out.same hz)
      have HX := Lib.hid ho2
      replace HB := Lib.hid (HB.out.trans (hz.mono HB.out.size))
      clear hz ho2
      go_wp2_with fail
      refine (equalExts_yes (c := d2) (d := co) HX.out.vals HL.out.vals).mono ?_
      rintro e z5 ⟨rfl, hz⟩
      replace HC := Lib.hid (HC.out.same hz)
      replace HB := Lib.hid (HB.out.trans (hz.mono HB.out.size))
      clear hz 
      clear ha hq1 hq2
      go_wp2_with fail
      refine (drawDecodeExts_any a0 n0 c0 _ HC.out).mono ?_
      rintro e z6 ⟨qd, md, dd, y, rfl, hoy, hmd, hz⟩
      replace HC := Lib.hid (HC.out.same hz)
      have HY := Lib.hid hoy
      replace HB := Lib.hid (HB.out.trans (hz.mono HB.out.size))
      clear hz hoy
      have hrm := HY.out.room
      cases hy : decX y with
      | none =>
        go_wp2_with fail
        refine (decE_no hy HY.out.nums hrm (by omega)).mono ?_
        rintro e z7 ⟨q6, n6, c6, rfl, hz⟩
        replace HC := Lib.hid (HC.out.same hz)
        replace HB := Lib.hid (HB.out.trans (hz.mono HB.out.size))
        clear hz 
        clear hy hrm
        go_wp2_with fail
        refine (drawKnownOf_any a0 n0 c0 _ HC.out).mono ?_
        rintro e z8 ⟨ak, mk, ck, vk, qt, nt, dt, ys, rfl, hok, hmk, hvk, hot, hnt, hyt, hz⟩
        have hkl := hok.len
        have hki := vok_items hvk
        have HW := Lib.hid (vok_tags hvk)
        have HWT : Hid (∀ z ∈ ys, (Lit.int .i64 z).wf = true) := Lib.hid (fun z hz => WalkArith.wf_i64 (hyt z hz))
        have HLK := Lib.hid (left_known vk ys)
        clear hvk hyt
        have HK := Lib.hid hok
        have HT := Lib.hid hot
        replace HB := Lib.hid (HB.out.trans (hz.mono HB.out.size))
        clear hz hok hot
        go_wp2_with fail
        refine (knownOf_any (c := ck) (d := dt) HK.out.vals HT.out.nums HW.out HWT.out (by omega) (by omega) (by omega)).mono ?_
        rintro e z9 ⟨az, mz, cz, rfl, hoz, hz⟩
        have hzl := hoz.len
        have hzf := known_few vk ys
        replace HK := Lib.hid (HK.out.same hz)
        replace HT := Lib.hid (HT.out.same hz)
        have HZ := Lib.hid hoz
        replace HB := Lib.hid (HB.out.trans (hz.mono HB.out.size))
        clear hz hoz
        go_wp2_with fail
        refine (tagsOf_any (c := cz) HZ.out.vals (by omega)).mono ?_
        rintro e z10 ⟨a1, n1, c1, rfl, ho1, hz⟩
        replace HK := Lib.hid (HK.out.same hz)
        replace HT := Lib.hid (HT.out.same hz)
        replace HZ := Lib.hid (HZ.out.same hz)
        have HA := Lib.hid ho1
        replace HB := Lib.hid (HB.out.trans (hz.mono HB.out.size))
        clear hz ho1
        go_wp2_with fail
        refine (within_yes (c := c1) (d := dt) HA.out.nums HT.out.nums known_in).mono ?_
        rintro e z11 ⟨rfl, hz⟩
        replace HK := Lib.hid (HK.out.same hz)
        replace HT := Lib.hid (HT.out.same hz)
        replace HZ := Lib.hid (HZ.out.same hz)
        replace HB := Lib.hid (HB.out.trans (hz.mono HB.out.size))
        clear hz 
        go_wp2_with fail
        refine (tagsOf_any (c := cz) HZ.out.vals (by omega)).mono ?_
        rintro e z12 ⟨a2, n2, c2, rfl, ho2, hz⟩
        replace HK := Lib.hid (HK.out.same hz)
        replace HT := Lib.hid (HT.out.same hz)
        replace HZ := Lib.hid (HZ.out.same hz)
        have HA := Lib.hid ho2
        replace HB := Lib.hid (HB.out.trans (hz.mono HB.out.size))
        clear hz ho2
        go_wp2_with fail
        refine (tagsOf_any (c := ck) HK.out.vals (by omega)).mono ?_
        rintro e z13 ⟨a3, n3, c3, rfl, ho3, hz⟩
        replace HK := Lib.hid (HK.out.same hz)
        replace HT := Lib.hid (HT.out.same hz)
        replace HZ := Lib.hid (HZ.out.same hz)
        replace HA := Lib.hid (HA.out.same hz)
        have HD := Lib.hid ho3
        replace HB := Lib.hid (HB.out.trans (hz.mono HB.out.size))
        clear hz ho3
        go_wp2_with fail
        refine (within_yes (c := c2) (d := c3) HA.out.nums HD.out.nums known_of).mono ?_
        rintro e z14 ⟨rfl, hz⟩
        replace HK := Lib.hid (HK.out.same hz)
        replace HT := Lib.hid (HT.out.same hz)
        replace HZ := Lib.hid (HZ.out.same hz)
        replace HB := Lib.hid (HB.out.trans (hz.mono HB.out.size))
        clear hz 
        go_wp2_with fail
        refine (tagsOf_any (c := ck) HK.out.vals (by omega)).mono ?_
        rintro e z15 ⟨a4, n4, c4, rfl, ho4, hz⟩
        have hn4 := ho4.len
        rw [tagsX_len] at hn4
        replace HK := Lib.hid (HK.out.same hz)
        replace HT := Lib.hid (HT.out.same hz)
        replace HZ := Lib.hid (HZ.out.same hz)
        have HA := Lib.hid ho4
        replace HB := Lib.hid (HB.out.trans (hz.mono HB.out.size))
        clear hz ho4
        go_wp2_with fail
        refine (left_any (c := c4) (d := dt) HA.out.nums HT.out.nums (by omega)).mono ?_
        rintro e z16 ⟨a5, n5, c5, rfl, ho5, hz⟩
        have hn5 := ho5.len
        have hsum := HLK.out
        replace HB := Lib.hid (HB.out.trans (hz.mono HB.out.size))
        clear hz ho5
        have heq : (((n5 : Int) + (mz : Int)) == (mk : Int)) = true := by simp; omega
        have hn5b : (n5 : Int) ≤ 6 := by omega
        have hmzb : (mz : Int) ≤ 6 := by omega
        clear hn5 hsum hn4 hzl hzf hkl hki
        go_wp2_with fail
        go_ret
        exact ⟨rfl, HB.out⟩
      | some l2 =>
        obtain ⟨ha2, rfl⟩ := decX_iff.1 hy
        go_wp2_with fail
        refine (decE_yes hy HY.out.nums hrm (by omega)).mono ?_
        rintro e z17 ⟨q6, n6, c6, rfl, ho6, hz⟩
        replace HC := Lib.hid (HC.out.same hz)
        replace HY := Lib.hid (HY.out.same hz)
        have HX := Lib.hid ho6
        replace HB := Lib.hid (HB.out.trans (hz.mono HB.out.size))
        clear hz ho6
        go_wp2_with fail
        refine (encE_yes (c := c6) ha2 HX.out.vals).mono ?_
        rintro e z18 ⟨q7, n7, c7, rfl, ho7, hz⟩
        replace HC := Lib.hid (HC.out.same hz)
        replace HY := Lib.hid (HY.out.same hz)
        have HE := Lib.hid ho7
        replace HB := Lib.hid (HB.out.trans (hz.mono HB.out.size))
        clear hz ho7
        go_wp2_with fail
        refine (equalInts_yes (c := dd) (d := c7) HY.out.nums HE.out.nums).mono ?_
        rintro e z19 ⟨rfl, hz⟩
        replace HC := Lib.hid (HC.out.same hz)
        replace HB := Lib.hid (HB.out.trans (hz.mono HB.out.size))
        clear hz 
        clear hy hrm ha2
        go_wp2_with fail
        refine (drawKnownOf_any a0 n0 c0 _ HC.out).mono ?_
        rintro e z20 ⟨ak, mk, ck, vk, qt, nt, dt, ys, rfl, hok, hmk, hvk, hot, hnt, hyt, hz⟩
        have hkl := hok.len
        have hki := vok_items hvk
        have HW := Lib.hid (vok_tags hvk)
        have HWT : Hid (∀ z ∈ ys, (Lit.int .i64 z).wf = true) := Lib.hid (fun z hz => WalkArith.wf_i64 (hyt z hz))
        have HLK := Lib.hid (left_known vk ys)
        clear hvk hyt
        have HK := Lib.hid hok
        have HT := Lib.hid hot
        replace HB := Lib.hid (HB.out.trans (hz.mono HB.out.size))
        clear hz hok hot
        go_wp2_with fail
        refine (knownOf_any (c := ck) (d := dt) HK.out.vals HT.out.nums HW.out HWT.out (by omega) (by omega) (by omega)).mono ?_
        rintro e z21 ⟨az, mz, cz, rfl, hoz, hz⟩
        have hzl := hoz.len
        have hzf := known_few vk ys
        replace HK := Lib.hid (HK.out.same hz)
        replace HT := Lib.hid (HT.out.same hz)
        have HZ := Lib.hid hoz
        replace HB := Lib.hid (HB.out.trans (hz.mono HB.out.size))
        clear hz hoz
        go_wp2_with fail
        refine (tagsOf_any (c := cz) HZ.out.vals (by omega)).mono ?_
        rintro e z22 ⟨a1, n1, c1, rfl, ho1, hz⟩
        replace HK := Lib.hid (HK.out.same hz)
        replace HT := Lib.hid (HT.out.same hz)
        replace HZ := Lib.hid (HZ.out.same hz)
        have HA := Lib.hid ho1
        replace HB := Lib.hid (HB.out.trans (hz.mono HB.out.size))
        clear hz ho1
        go_wp2_with fail
        refine (within_yes (c := c1) (d := dt) HA.out.nums HT.out.nums known_in).mono ?_
        rintro e z23 ⟨rfl, hz⟩
        replace HK := Lib.hid (HK.out.same hz)
        replace HT := Lib.hid (HT.out.same hz)
        replace HZ := Lib.hid (HZ.out.same hz)
        replace HB := Lib.hid (HB.out.trans (hz.mono HB.out.size))
        clear hz 
        go_wp2_with fail
        refine (tagsOf_any (c := cz) HZ.out.vals (by omega)).mono ?_
        rintro e z24 ⟨a2, n2, c2, rfl, ho2, hz⟩
        replace HK := Lib.hid (HK.out.same hz)
        replace HT := Lib.hid (HT.out.same hz)
        replace HZ := Lib.hid (HZ.out.same hz)
        have HA := Lib.hid ho2
        replace HB := Lib.hid (HB.out.trans (hz.mono HB.out.size))
        clear hz ho2
        go_wp2_with fail
        refine (tagsOf_any (c := ck) HK.out.vals (by omega)).mono ?_
        rintro e z25 ⟨a3, n3, c3, rfl, ho3, hz⟩
        replace HK := Lib.hid (HK.out.same hz)
        replace HT := Lib.hid (HT.out.same hz)
        replace HZ := Lib.hid (HZ.out.same hz)
        replace HA := Lib.hid (HA.out.same hz)
        have HD := Lib.hid ho3
        replace HB := Lib.hid (HB.out.trans (hz.mono HB.out.size))
        clear hz ho3
        go_wp2_with fail
        refine (within_yes (c := c2) (d := c3) HA.out.nums HD.out.nums known_of).mono ?_
        rintro e z26 ⟨rfl, hz⟩
        replace HK := Lib.hid (HK.out.same hz)
        replace HT := Lib.hid (HT.out.same hz)
        replace HZ := Lib.hid (HZ.out.same hz)
        replace HB := Lib.hid (HB.out.trans (hz.mono HB.out.size))
        clear hz 
        go_wp2_with fail
        refine (tagsOf_any (c := ck) HK.out.vals (by omega)).mono ?_
        rintro e z27 ⟨a4, n4, c4, rfl, ho4, hz⟩
        have hn4 := ho4.len
        rw [tagsX_len] at hn4
        replace HK := Lib.hid (HK.out.same hz)
        replace HT := Lib.hid (HT.out.same hz)
        replace HZ := Lib.hid (HZ.out.same hz)
        have HA := Lib.hid ho4
        replace HB := Lib.hid (HB.out.trans (hz.mono HB.out.size))
        clear hz ho4
        go_wp2_with fail
        refine (left_any (c := c4) (d := dt) HA.out.nums HT.out.nums (by omega)).mono ?_
        rintro e z28 ⟨a5, n5, c5, rfl, ho5, hz⟩
        have hn5 := ho5.len
        have hsum := HLK.out
        replace HB := Lib.hid (HB.out.trans (hz.mono HB.out.size))
        clear hz ho5
        have heq : (((n5 : Int) + (mz : Int)) == (mk : Int)) = true := by simp; omega
        have hn5b : (n5 : Int) ≤ 6 := by omega
        have hmzb : (mz : Int) ≤ 6 := by omega
        clear hn5 hsum hn4 hzl hzf hkl hki
        go_wp2_with fail
        go_ret
        exact ⟨rfl, HB.out⟩
    | false =>
      go_wp2_with fail
      refine (encE_no (c := co) ha HL.out.vals).mono ?_
      rintro e z29 ⟨q1, m1, d1, rfl, hz⟩
      replace HC := Lib.hid (HC.out.same hz)
      replace HL := Lib.hid (HL.out.same hz)
      replace HB := Lib.hid (HB.out.trans (hz.mono HB.out.size))
      clear hz 
      go_wp2_with fail
      refine (told_bool ha (areExts_any (c := co) HL.out.vals)).mono ?_
      rintro e z30 ⟨rfl, hz⟩
      replace HC := Lib.hid (HC.out.same hz)
      replace HB := Lib.hid (HB.out.trans (hz.mono HB.out.size))
      clear hz 
      clear ha
      go_wp2_with fail
      refine (drawDecodeExts_any a0 n0 c0 _ HC.out).mono ?_
      rintro e z31 ⟨qd, md, dd, y, rfl, hoy, hmd, hz⟩
      replace HC := Lib.hid (HC.out.same hz)
      have HY := Lib.hid hoy
      replace HB := Lib.hid (HB.out.trans (hz.mono HB.out.size))
      clear hz hoy
      have hrm := HY.out.room
      cases hy : decX y with
      | none =>
        go_wp2_with fail
        refine (decE_no hy HY.out.nums hrm (by omega)).mono ?_
        rintro e z32 ⟨q6, n6, c6, rfl, hz⟩
        replace HC := Lib.hid (HC.out.same hz)
        replace HB := Lib.hid (HB.out.trans (hz.mono HB.out.size))
        clear hz 
        clear hy hrm
        go_wp2_with fail
        refine (drawKnownOf_any a0 n0 c0 _ HC.out).mono ?_
        rintro e z33 ⟨ak, mk, ck, vk, qt, nt, dt, ys, rfl, hok, hmk, hvk, hot, hnt, hyt, hz⟩
        have hkl := hok.len
        have hki := vok_items hvk
        have HW := Lib.hid (vok_tags hvk)
        have HWT : Hid (∀ z ∈ ys, (Lit.int .i64 z).wf = true) := Lib.hid (fun z hz => WalkArith.wf_i64 (hyt z hz))
        have HLK := Lib.hid (left_known vk ys)
        clear hvk hyt
        have HK := Lib.hid hok
        have HT := Lib.hid hot
        replace HB := Lib.hid (HB.out.trans (hz.mono HB.out.size))
        clear hz hok hot
        go_wp2_with fail
        refine (knownOf_any (c := ck) (d := dt) HK.out.vals HT.out.nums HW.out HWT.out (by omega) (by omega) (by omega)).mono ?_
        rintro e z34 ⟨az, mz, cz, rfl, hoz, hz⟩
        have hzl := hoz.len
        have hzf := known_few vk ys
        replace HK := Lib.hid (HK.out.same hz)
        replace HT := Lib.hid (HT.out.same hz)
        have HZ := Lib.hid hoz
        replace HB := Lib.hid (HB.out.trans (hz.mono HB.out.size))
        clear hz hoz
        go_wp2_with fail
        refine (tagsOf_any (c := cz) HZ.out.vals (by omega)).mono ?_
        rintro e z35 ⟨a1, n1, c1, rfl, ho1, hz⟩
        replace HK := Lib.hid (HK.out.same hz)
        replace HT := Lib.hid (HT.out.same hz)
        replace HZ := Lib.hid (HZ.out.same hz)
        have HA := Lib.hid ho1
        replace HB := Lib.hid (HB.out.trans (hz.mono HB.out.size))
        clear hz ho1
        go_wp2_with fail
        refine (within_yes (c := c1) (d := dt) HA.out.nums HT.out.nums known_in).mono ?_
        rintro e z36 ⟨rfl, hz⟩
        replace HK := Lib.hid (HK.out.same hz)
        replace HT := Lib.hid (HT.out.same hz)
        replace HZ := Lib.hid (HZ.out.same hz)
        replace HB := Lib.hid (HB.out.trans (hz.mono HB.out.size))
        clear hz 
        go_wp2_with fail
        refine (tagsOf_any (c := cz) HZ.out.vals (by omega)).mono ?_
        rintro e z37 ⟨a2, n2, c2, rfl, ho2, hz⟩
        replace HK := Lib.hid (HK.out.same hz)
        replace HT := Lib.hid (HT.out.same hz)
        replace HZ := Lib.hid (HZ.out.same hz)
        have HA := Lib.hid ho2
        replace HB := Lib.hid (HB.out.trans (hz.mono HB.out.size))
        clear hz ho2
        go_wp2_with fail
        refine (tagsOf_any (c := ck) HK.out.vals (by omega)).mono ?_
        rintro e z38 ⟨a3, n3, c3, rfl, ho3, hz⟩
        replace HK := Lib.hid (HK.out.same hz)
        replace HT := Lib.hid (HT.out.same hz)
        replace HZ := Lib.hid (HZ.out.same hz)
        replace HA := Lib.hid (HA.out.same hz)
        have HD := Lib.hid ho3
        replace HB := Lib.hid (HB.out.trans (hz.mono HB.out.size))
        clear hz ho3
        go_wp2_with fail
        refine (within_yes (c := c2) (d := c3) HA.out.nums HD.out.nums known_of).mono ?_
        rintro e z39 ⟨rfl, hz⟩
        replace HK := Lib.hid (HK.out.same hz)
        replace HT := Lib.hid (HT.out.same hz)
        replace HZ := Lib.hid (HZ.out.same hz)
        replace HB := Lib.hid (HB.out.trans (hz.mono HB.out.size))
        clear hz 
        go_wp2_with fail
        refine (tagsOf_any (c := ck) HK.out.vals (by omega)).mono ?_
        rintro e z40 ⟨a4, n4, c4, rfl, ho4, hz⟩
        have hn4 := ho4.len
        rw [tagsX_len] at hn4
        replace HK := Lib.hid (HK.out.same hz)
        replace HT := Lib.hid (HT.out.same hz)
        replace HZ := Lib.hid (HZ.out.same hz)
        have HA := Lib.hid ho4
        replace HB := Lib.hid (HB.out.trans (hz.mono HB.out.size))
        clear hz ho4
        go_wp2_with fail
        refine (left_any (c := c4) (d := dt) HA.out.nums HT.out.nums (by omega)).mono ?_
        rintro e z41 ⟨a5, n5, c5, rfl, ho5, hz⟩
        have hn5 := ho5.len
        have hsum := HLK.out
        replace HB := Lib.hid (HB.out.trans (hz.mono HB.out.size))
        clear hz ho5
        have heq : (((n5 : Int) + (mz : Int)) == (mk : Int)) = true := by simp; omega
        have hn5b : (n5 : Int) ≤ 6 := by omega
        have hmzb : (mz : Int) ≤ 6 := by omega
        clear hn5 hsum hn4 hzl hzf hkl hki
        go_wp2_with fail
        go_ret
        exact ⟨rfl, HB.out⟩
      | some l2 =>
        obtain ⟨ha2, rfl⟩ := decX_iff.1 hy
        go_wp2_with fail
        refine (decE_yes hy HY.out.nums hrm (by omega)).mono ?_
        rintro e z42 ⟨q6, n6, c6, rfl, ho6, hz⟩
        replace HC := Lib.hid (HC.out.same hz)
        replace HY := Lib.hid (HY.out.same hz)
        have HX := Lib.hid ho6
        replace HB := Lib.hid (HB.out.trans (hz.mono HB.out.size))
        clear hz ho6
        go_wp2_with fail
        refine (encE_yes (c := c6) ha2 HX.out.vals).mono ?_
        rintro e z43 ⟨q7, n7, c7, rfl, ho7, hz⟩
        replace HC := Lib.hid (HC.out.same hz)
        replace HY := Lib.hid (HY.out.same hz)
        have HE := Lib.hid ho7
        replace HB := Lib.hid (HB.out.trans (hz.mono HB.out.size))
        clear hz ho7
        go_wp2_with fail
        refine (equalInts_yes (c := dd) (d := c7) HY.out.nums HE.out.nums).mono ?_
        rintro e z44 ⟨rfl, hz⟩
        replace HC := Lib.hid (HC.out.same hz)
        replace HB := Lib.hid (HB.out.trans (hz.mono HB.out.size))
        clear hz 
        clear hy hrm ha2
        go_wp2_with fail
        refine (drawKnownOf_any a0 n0 c0 _ HC.out).mono ?_
        rintro e z45 ⟨ak, mk, ck, vk, qt, nt, dt, ys, rfl, hok, hmk, hvk, hot, hnt, hyt, hz⟩
        have hkl := hok.len
        have hki := vok_items hvk
        have HW := Lib.hid (vok_tags hvk)
        have HWT : Hid (∀ z ∈ ys, (Lit.int .i64 z).wf = true) := Lib.hid (fun z hz => WalkArith.wf_i64 (hyt z hz))
        have HLK := Lib.hid (left_known vk ys)
        clear hvk hyt
        have HK := Lib.hid hok
        have HT := Lib.hid hot
        replace HB := Lib.hid (HB.out.trans (hz.mono HB.out.size))
        clear hz hok hot
        go_wp2_with fail
        refine (knownOf_any (c := ck) (d := dt) HK.out.vals HT.out.nums HW.out HWT.out (by omega) (by omega) (by omega)).mono ?_
        rintro e z46 ⟨az, mz, cz, rfl, hoz, hz⟩
        have hzl := hoz.len
        have hzf := known_few vk ys
        replace HK := Lib.hid (HK.out.same hz)
        replace HT := Lib.hid (HT.out.same hz)
        have HZ := Lib.hid hoz
        replace HB := Lib.hid (HB.out.trans (hz.mono HB.out.size))
        clear hz hoz
        go_wp2_with fail
        refine (tagsOf_any (c := cz) HZ.out.vals (by omega)).mono ?_
        rintro e z47 ⟨a1, n1, c1, rfl, ho1, hz⟩
        replace HK := Lib.hid (HK.out.same hz)
        replace HT := Lib.hid (HT.out.same hz)
        replace HZ := Lib.hid (HZ.out.same hz)
        have HA := Lib.hid ho1
        replace HB := Lib.hid (HB.out.trans (hz.mono HB.out.size))
        clear hz ho1
        go_wp2_with fail
        refine (within_yes (c := c1) (d := dt) HA.out.nums HT.out.nums known_in).mono ?_
        rintro e z48 ⟨rfl, hz⟩
        replace HK := Lib.hid (HK.out.same hz)
        replace HT := Lib.hid (HT.out.same hz)
        replace HZ := Lib.hid (HZ.out.same hz)
        replace HB := Lib.hid (HB.out.trans (hz.mono HB.out.size))
        clear hz 
        go_wp2_with fail
        refine (tagsOf_any (c := cz) HZ.out.vals (by omega)).mono ?_
        rintro e z49 ⟨a2, n2, c2, rfl, ho2, hz⟩
        replace HK := Lib.hid (HK.out.same hz)
        replace HT := Lib.hid (HT.out.same hz)
        replace HZ := Lib.hid (HZ.out.same hz)
        have HA := Lib.hid ho2
        replace HB := Lib.hid (HB.out.trans (hz.mono HB.out.size))
        clear hz ho2
        go_wp2_with fail
        refine (tagsOf_any (c := ck) HK.out.vals (by omega)).mono ?_
        rintro e z50 ⟨a3, n3, c3, rfl, ho3, hz⟩
        replace HK := Lib.hid (HK.out.same hz)
        replace HT := Lib.hid (HT.out.same hz)
        replace HZ := Lib.hid (HZ.out.same hz)
        replace HA := Lib.hid (HA.out.same hz)
        have HD := Lib.hid ho3
        replace HB := Lib.hid (HB.out.trans (hz.mono HB.out.size))
        clear hz ho3
        go_wp2_with fail
        refine (within_yes (c := c2) (d := c3) HA.out.nums HD.out.nums known_of).mono ?_
        rintro e z51 ⟨rfl, hz⟩
        replace HK := Lib.hid (HK.out.same hz)
        replace HT := Lib.hid (HT.out.same hz)
        replace HZ := Lib.hid (HZ.out.same hz)
        replace HB := Lib.hid (HB.out.trans (hz.mono HB.out.size))
        clear hz 
        go_wp2_with fail
        refine (tagsOf_any (c := ck) HK.out.vals (by omega)).mono ?_
        rintro e z52 ⟨a4, n4, c4, rfl, ho4, hz⟩
        have hn4 := ho4.len
        rw [tagsX_len] at hn4
        replace HK := Lib.hid (HK.out.same hz)
        replace HT := Lib.hid (HT.out.same hz)
        replace HZ := Lib.hid (HZ.out.same hz)
        have HA := Lib.hid ho4
        replace HB := Lib.hid (HB.out.trans (hz.mono HB.out.size))
        clear hz ho4
        go_wp2_with fail
        refine (left_any (c := c4) (d := dt) HA.out.nums HT.out.nums (by omega)).mono ?_
        rintro e z53 ⟨a5, n5, c5, rfl, ho5, hz⟩
        have hn5 := ho5.len
        have hsum := HLK.out
        replace HB := Lib.hid (HB.out.trans (hz.mono HB.out.size))
        clear hz ho5
        have heq : (((n5 : Int) + (mz : Int)) == (mk : Int)) = true := by simp; omega
        have hn5b : (n5 : Int) ≤ 6 := by omega
        have hmzb : (mz : Int) ≤ 6 := by omega
        clear hn5 hsum hn4 hzl hzf hkl hki
        go_wp2_with fail
        go_ret
        exact ⟨rfl, HB.out⟩

set_option maxRecDepth 100000 in
theorem lifted (os : Os) (started : os.Started) (H : Type) (enc : TypeId × Value → H) :
    ReturnsInHanded {} Try.checked os 3 .any (Rows.fnExtsSpec.pre6 enc Try.prog Try.f3 Rows.fnExtsRow.domain false) (Rows.fnExtsSpec.post enc Try.prog Try.f3 false true false false) := by
  refine returnsInHanded_of_change (C := Try.checked) own started (by kernel_rfl) Try.func3
    (ChangeSpec.witness6 (enc := enc) (C := Try.checked) false ⟨#[], #[.slice none 0 0], []⟩ 8 (by kernel_rfl) (by kernel_rfl) (by kernel_rfl) (by kernel_rfl)) ?_
  intro W base args ds gs before hval0 hW hcnd _
  have hval : ∀ (j : Nat) t v, Try.f3.params[j]? = some t → args[j]? = some v → Value.okWide Try.prog W .any base t v := hval0
  have hW' := hW
  obtain ⟨p, q, hA0, hV, rfl, hfz, hnd⟩ := hW
  have hA : DataW.TrodAll enc Try.prog W 0 (fun _ => true) true Try.f3.params.toList args.toList ds p := hA0
  rw [Try.params3] at hA hval
  obtain ⟨v0, vs0, d0, ds0, p0, q0, hargs, rfl, rfl, h0, r0⟩ := trodAll_cons hA
  obtain ⟨rfl, rfl, rfl⟩ := trodAll_nil r0
  obtain rfl : args = #[v0] := by cases args; simp_all
  obtain ⟨rfl, rfl⟩ := trodVars_none hV
  have h0k := h0
  have hlt0 : ∀ x ∈ p0, x.block < W.heap.size := fun x hx => by simpa using hW'.lt x (by simp [hx])
  obtain ⟨a0, n0, c0, l0, rfl, K0, F0, R0⟩ := open_nums Try.underlying22 Try.underlying5 byte_cells (hval 0 22 v0 rfl rfl) h0
  clear hA0 hval0
  simp only [List.append_nil] at hW'
  refine (walk a0 n0 c0 l0 W K0 F0 R0).mono fun e W' ⟨he, hb⟩ => ?_
  subst he
  exact ⟨_, rfl, ⟨_, _, _, [], _, [], hW', (trodAll_cons_mk (shut_bool Try.underlying4 _) trodAll_mk0), (trodAll_cons_mk (Below.trod laidOut (by kernel_rfl) (of_decide_eq_true (by kernel_rfl)) h0k hb hlt0) trodAll_mk0), rfl, hb.frame _, fun h => by cases h⟩⟩

theorem over : Rows.fnExtsRow.holds Try.pinned (OpenSpec.ofChange Rows.fnExtsSpec) :=
  OpenClaim.holds_of_wide 3 Try.f3 rfl rfl rfl rfl rfl rfl rfl ⟨rfl, rfl, rfl, rfl, rfl⟩ rfl rfl rfl rfl rfl (by kernel_rfl) Try.func3 (by kernel_rfl)
    (of_decide_eq_true (by kernel_rfl)) (by unfold Func.isWrapper; first | (rw [if_pos (by decide +kernel)]; kernel_rfl) | (rw [if_neg (by decide +kernel)]; exact ⟨rfl, rfl⟩))
    (fun os started H enc _ => lifted os started H enc)

theorem proved : Rows.FnExtsSaid :=
  over
end Go.Proofs.Ytgkacnngodamgaa.fnExts
