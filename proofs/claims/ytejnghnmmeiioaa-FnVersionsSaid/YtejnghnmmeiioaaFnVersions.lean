/- For every input of bytes: the greatest common version of two lists does not depend on their order, is on both and is the greatest that they have in common, and a version that is added and dropped again leaves the list as it was. -/
import Derived.Test.YtejnghnmmeiioaaDr
import Derived.Test.YtejnghnmmeiioaaDrBig
import Derived.Test.YtejnghnmmeiioaaDrVs
import Derived.Test.YtejnghnmmeiioaaCmn
import Derived.Test.YtejnghnmmeiioaaVrQ
import Derived.Test.YtejnghnmmeiioaaVrO
import Derived.Test.YtejnghnmmeiioaaAdv
import Derived.Test.YtejnghnmmeiioaaCtn
import Derived.Test.YtejnghnmmeiioaaEqIP
import Derived.Test.YtejnghnmmeiioaaOpen
import Derived.WalkKit
import Derived.Deep.RegionHeld3
import Derived.ProofKit
import Derived.OpenShut
namespace Go.Proofs.Ytejnghnmmeiioaa.fnVersions
open Go.ChangeShapes Go.WideShapes Go.ChangeAt Go.RowKit Go.Lib
open Go.ChangeMaps (open_string shut_string)
set_option linter.unusedVariables false

theorem own : ownKnob Try.prog.godebug = none := by kernel_rfl

set_option maxHeartbeats 40000000 in
set_option maxRecDepth 100000 in
theorem walk (a0 : Option Addr) (n0 c0 : Nat) (l0 : List Int) (w : World) (K0 : Nums .u8 w a0 n0 l0) (F0 : ∀ x ∈ l0, (Lit.int .u8 x).wf = true) (R0 : n0 ≤ c0 ∧ (c0 : Int) ≤ 9223372036854775807) :
    Calls Try.prog 3 #[.slice a0 n0 c0] w fun e w' => e = .returned (.bool true) ∧ Below w.heap.size w w' := by
  have HK0 := Lib.hid K0
  have HF := Lib.hid (bs_of_wf F0)
  have hfit := K0.fits
  clear K0 F0 R0
  by_cases hbig : 1048576 < n0
  · go_enter Try.func3, Try.ntmps3
    go_wp2_with fail
    refine (big_yes a0 n0 c0 hfit hbig _).mono ?_
    rintro e w1 ⟨rfl, rfl⟩
    go_wp2_with fail
    go_ret
    exact ⟨rfl, Below.refl _ _⟩
  · have HC := Lib.hid (code_of HK0.out HF.out)
    have HB := Lib.hid (Below.refl w.heap.size w)
    go_enter Try.func3, Try.ntmps3
    go_wp2_with fail
    refine (big_no a0 n0 c0 hfit hbig _).mono ?_
    rintro e w1 ⟨rfl, rfl⟩
    clear hfit hbig HK0 HF
    have hcall := drawBestCommon_any a0 n0 c0 _ HC.out
    go_wp2_with fail
    refine hcall.mono ?_
    rintro e z1 ⟨qa, ma, da, la, qb, mb, db, lb, rfl, hoa, hob, hma, hmb, hsa, hsb, hz⟩
    clear hcall
    replace HC := Lib.hid (HC.out.same hz)
    have HP := Lib.hid hoa
    have HQ := Lib.hid hob
    have HSA := Lib.hid hsa
    have HSB := Lib.hid hsb
    replace HB := Lib.hid (HB.out.trans (hz.mono HB.out.size))
    clear hz hoa hob hsa hsb
    by_cases hn0 : best la lb = 0
    · have hN0 : (best la lb : Int) = 0 := by rw [hn0]; rfl
      by_cases ha : word la = 0
      · have ea : areV la = false := areV_no ha
        by_cases hcm : common la lb = []
        · clear ha hn0
          have hcall := told_is (bestCommon_any (c := da) (d := db) HP.out.nums HQ.out.nums)
          rw [hN0] at hcall
          go_wp2_with fail
          refine hcall.mono ?_
          rintro e z2 ⟨rfl, hz⟩
          clear hcall
          replace HC := Lib.hid (HC.out.same hz)
          replace HP := Lib.hid (HP.out.same hz)
          replace HQ := Lib.hid (HQ.out.same hz)
          replace HB := Lib.hid (HB.out.trans (hz.mono HB.out.size))
          clear hz 
          have mixed : Try.prog.follows .mixedOrders = true := by rfl
          have k1 : ∀ i, Calls Try.prog 13 #[.slice qa ma da] (z2.drewN i) fun e w' => e = .returned (.bool (areV la)) ∧ ∃ m, w' = z2.drewN m := fun i => (areVersions_any (HP.out.nums.same (drewN_same _ _))).mono fun e w' ⟨h1, h2⟩ => ⟨h1, i, h2.symm⟩
          have k2 : ∀ i, Calls Try.prog 14 #[.slice qa ma da] (z2.drewN i) fun e w' => e = .returned (.bool (areV la)) ∧ ∃ m, w' = z2.drewN m := fun i => (specAreVersions_quiet (HP.out.nums.same (drewN_same _ _))).mono fun e w' ⟨h1, h2⟩ => ⟨h1, by obtain ⟨q, rfl⟩ := h2; exact ⟨i + q, World.drewN_drewN _ _ _⟩⟩
          have k3 : ∀ i, Calls Try.prog 12 #[.slice qb mb db, .slice qa ma da] (z2.drewN i) fun e w' => e = .returned (.int .i64 (best la lb : Int)) ∧ ∃ m, w' = z2.drewN m := fun i => (bestCommon_any (HQ.out.nums.same (drewN_same _ _)) (HP.out.nums.same (drewN_same _ _))).mono fun e w' ⟨h1, h2⟩ => ⟨by rw [best_comm la lb]; exact h1, i, h2.symm⟩
          rw [ea] at k1 k2
          rw [hN0] at k3
          go_wp2_with fail
          go_quiet (first | (go_at_call 13; exact k1 _) | (go_at_call 14; exact k2 _) | (go_at_call 12; first | (with_reducible exact k3 _)))
          have hdr : ∀ i, Below z2.heap.size z2 (z2.drewN i) := fun i => drewN_same _ _
          clear k1 k2 k3
          go_wp2_with fail
          refine (commonOf_any (c := da) (d := db) (HP.out.nums.same (drewN_same _ _)) (HQ.out.nums.same (drewN_same _ _)) HSA.out.wf HSB.out.wf (by omega) (by omega)).mono ?_
          rintro e z3 ⟨qc, mc, dc, rfl, hoc, hz0⟩
          have hz : Below z2.heap.size z2 z3 := (drewN_same _ _).trans hz0
          replace HC := Lib.hid (HC.out.same hz)
          replace HP := Lib.hid (HP.out.same hz)
          replace HQ := Lib.hid (HQ.out.same hz)
          replace HB := Lib.hid (HB.out.trans (hz.mono HB.out.size))
          have hcl := hoc.len
          have hmc6 : mc ≤ 6 := by
            have h1 := common_few la lb
            have h2 := HP.out.len
            omega
          have HM := Lib.hid hoc
          clear hz hz0 hoc hdr
          rw [hcm] at hcl
          obtain rfl : 0 = mc := hcl
          clear hcm HM
          go_wp2_with fail
          go_loop [7] (fun i => i = .int .i64 0) (fun _ => 0)
          case atStart => rfl
          case round =>
            obtain rfl := hrel
            have hcall := drawAddVersion_any a0 n0 c0 _ HC.out
            go_wp2_with fail
            refine hcall.mono ?_
            rintro e z4 ⟨ql, ml, dl, l, v, rfl, hol, hml, hsl, hv1, hv2, hz⟩
            clear hcall
            replace HP := Lib.hid (HP.out.same hz)
            replace HQ := Lib.hid (HQ.out.same hz)
            have HL := Lib.hid hol
            replace HB := Lib.hid (HB.out.trans (hz.mono HB.out.size))
            clear hz hol
            clear HC
            have hll := HL.out.len
            cases hok : addsV l v with
            | false =>
              have hcall := addVersion_any (c := dl) v HL.out.nums (by omega)
              rw [hok] at hcall
              go_wp2_with fail
              refine hcall.mono ?_
              rintro e z5 ⟨qx, mx, dx, rfl, hox, hz⟩
              clear hcall
              clear hox
              replace HP := Lib.hid (HP.out.same hz)
              replace HQ := Lib.hid (HQ.out.same hz)
              replace HB := Lib.hid (HB.out.trans (hz.mono HB.out.size))
              clear hz 
              clear HL hok hll
              go_wp2_with fail
              go_ret
              exact ⟨rfl, HB.out⟩
            | true =>
              obtain ⟨f1, f2, f3, f4⟩ := add_drop hok
              have f5 : areV (addV l v) = true := areV_yes f1
              have f6 : areV l = true := areV_yes (of_decide_eq_true hok).1
              have f7 : spans (addV l v) ≤ spans l + 1 := by unfold spans; rw [if_pos f5, if_pos f6]; exact f4
              have f8 : spans l ≤ 6 := by unfold spans; rw [if_pos f6]; have := spn_le l l.length; unfold spn; omega
              have f9 := addV_few l v
              have fl : l.length ≤ 6 := by omega
              clear hll
              clear f1 f4 f6
              have hcall := addVersion_any (c := dl) v HL.out.nums (by omega)
              rw [hok] at hcall
              clear hok
              generalize addV l v = X at f2 f3 f5 f7 f9 hcall
              generalize hsl : spans l = sl at f7 f8
              generalize hsx : spans X = sx at f7
              have HSX := Lib.hid hsx
              have HSL := Lib.hid hsl
              clear hsx hsl
              go_wp2_with fail
              refine hcall.mono ?_
              rintro e z6 ⟨qx, mx, dx, rfl, hox, hz⟩
              clear hcall
              have hxl := hox.len
              replace HP := Lib.hid (HP.out.same hz)
              replace HQ := Lib.hid (HQ.out.same hz)
              replace HL := Lib.hid (HL.out.same hz)
              have HX := Lib.hid hox
              replace HB := Lib.hid (HB.out.trans (hz.mono HB.out.size))
              clear hz hox
              have hcall := dropVersion_any (c := dx) v HX.out.nums (by omega)
              rw [f2, f3] at hcall
              go_wp2_with fail
              refine hcall.mono ?_
              rintro e z7 ⟨qy, my, dy, rfl, hoy, hz⟩
              clear hcall
              replace HP := Lib.hid (HP.out.same hz)
              replace HQ := Lib.hid (HQ.out.same hz)
              replace HL := Lib.hid (HL.out.same hz)
              replace HX := Lib.hid (HX.out.same hz)
              have HY := Lib.hid hoy
              replace HB := Lib.hid (HB.out.trans (hz.mono HB.out.size))
              clear hz hoy
              have hcall := told_is (areVersions_any (c := dx) HX.out.nums)
              rw [f5] at hcall
              go_wp2_with fail
              refine hcall.mono ?_
              rintro e z8 ⟨rfl, hz⟩
              clear hcall
              replace HP := Lib.hid (HP.out.same hz)
              replace HQ := Lib.hid (HQ.out.same hz)
              replace HL := Lib.hid (HL.out.same hz)
              replace HX := Lib.hid (HX.out.same hz)
              replace HY := Lib.hid (HY.out.same hz)
              replace HB := Lib.hid (HB.out.trans (hz.mono HB.out.size))
              clear hz 
              have hcall := equalInts_yes (c := dy) (d := dl) HY.out.nums HL.out.nums
              go_wp2_with fail
              refine hcall.mono ?_
              rintro e z9 ⟨rfl, hz⟩
              clear hcall
              replace HP := Lib.hid (HP.out.same hz)
              replace HQ := Lib.hid (HQ.out.same hz)
              replace HL := Lib.hid (HL.out.same hz)
              replace HX := Lib.hid (HX.out.same hz)
              replace HY := Lib.hid (HY.out.same hz)
              replace HB := Lib.hid (HB.out.trans (hz.mono HB.out.size))
              clear hz 
              have hcall := spansOf_any (c := dx) HX.out.nums
              rw [HSX.out] at hcall
              go_wp2_with fail
              refine hcall.mono ?_
              rintro e z10 ⟨rfl, hz⟩
              clear hcall
              replace HP := Lib.hid (HP.out.same hz)
              replace HQ := Lib.hid (HQ.out.same hz)
              replace HL := Lib.hid (HL.out.same hz)
              replace HX := Lib.hid (HX.out.same hz)
              replace HY := Lib.hid (HY.out.same hz)
              replace HB := Lib.hid (HB.out.trans (hz.mono HB.out.size))
              clear hz 
              have hcall := spansOf_any (c := dl) HL.out.nums
              rw [HSL.out] at hcall
              go_wp2_with fail
              refine hcall.mono ?_
              rintro e z11 ⟨rfl, hz⟩
              clear hcall
              replace HP := Lib.hid (HP.out.same hz)
              replace HQ := Lib.hid (HQ.out.same hz)
              replace HL := Lib.hid (HL.out.same hz)
              replace HX := Lib.hid (HX.out.same hz)
              replace HY := Lib.hid (HY.out.same hz)
              replace HB := Lib.hid (HB.out.trans (hz.mono HB.out.size))
              clear hz 
              have hle : ¬ ((sl : Int) + 1 < (sx : Int)) := by omega
              have hle2 : ¬ (sl + 1 < sx) := by omega
              clear HX HY HL HSX HSL f2 f3 f5 f7 f9 fl hxl
              go_wp2_with fail
              go_ret
              exact ⟨rfl, HB.out⟩
        · clear ha hn0
          have hcall := told_is (bestCommon_any (c := da) (d := db) HP.out.nums HQ.out.nums)
          rw [hN0] at hcall
          go_wp2_with fail
          refine hcall.mono ?_
          rintro e z2 ⟨rfl, hz⟩
          clear hcall
          replace HC := Lib.hid (HC.out.same hz)
          replace HP := Lib.hid (HP.out.same hz)
          replace HQ := Lib.hid (HQ.out.same hz)
          replace HB := Lib.hid (HB.out.trans (hz.mono HB.out.size))
          clear hz 
          have mixed : Try.prog.follows .mixedOrders = true := by rfl
          have k1 : ∀ i, Calls Try.prog 13 #[.slice qa ma da] (z2.drewN i) fun e w' => e = .returned (.bool (areV la)) ∧ ∃ m, w' = z2.drewN m := fun i => (areVersions_any (HP.out.nums.same (drewN_same _ _))).mono fun e w' ⟨h1, h2⟩ => ⟨h1, i, h2.symm⟩
          have k2 : ∀ i, Calls Try.prog 14 #[.slice qa ma da] (z2.drewN i) fun e w' => e = .returned (.bool (areV la)) ∧ ∃ m, w' = z2.drewN m := fun i => (specAreVersions_quiet (HP.out.nums.same (drewN_same _ _))).mono fun e w' ⟨h1, h2⟩ => ⟨h1, by obtain ⟨q, rfl⟩ := h2; exact ⟨i + q, World.drewN_drewN _ _ _⟩⟩
          have k3 : ∀ i, Calls Try.prog 12 #[.slice qb mb db, .slice qa ma da] (z2.drewN i) fun e w' => e = .returned (.int .i64 (best la lb : Int)) ∧ ∃ m, w' = z2.drewN m := fun i => (bestCommon_any (HQ.out.nums.same (drewN_same _ _)) (HP.out.nums.same (drewN_same _ _))).mono fun e w' ⟨h1, h2⟩ => ⟨by rw [best_comm la lb]; exact h1, i, h2.symm⟩
          rw [ea] at k1 k2
          rw [hN0] at k3
          go_wp2_with fail
          go_quiet (first | (go_at_call 13; exact k1 _) | (go_at_call 14; exact k2 _) | (go_at_call 12; first | (with_reducible exact k3 _)))
          have hdr : ∀ i, Below z2.heap.size z2 (z2.drewN i) := fun i => drewN_same _ _
          clear k1 k2 k3
          go_wp2_with fail
          refine (commonOf_any (c := da) (d := db) (HP.out.nums.same (drewN_same _ _)) (HQ.out.nums.same (drewN_same _ _)) HSA.out.wf HSB.out.wf (by omega) (by omega)).mono ?_
          rintro e z3 ⟨qc, mc, dc, rfl, hoc, hz0⟩
          have hz : Below z2.heap.size z2 z3 := (drewN_same _ _).trans hz0
          replace HC := Lib.hid (HC.out.same hz)
          replace HP := Lib.hid (HP.out.same hz)
          replace HQ := Lib.hid (HQ.out.same hz)
          replace HB := Lib.hid (HB.out.trans (hz.mono HB.out.size))
          have hcl := hoc.len
          have hmc6 : mc ≤ 6 := by
            have h1 := common_few la lb
            have h2 := HP.out.len
            omega
          have HM := Lib.hid hoc
          clear hz hz0 hoc hdr
          have hmc : 0 < mc := by
            rw [← hcl]
            exact List.length_pos_iff.2 hcm
          have hmcI : (0 : Int) < (mc : Int) := by omega
          clear hcm hcl HM
          go_wp2_with fail
          go_loop [7] (fun i => i = .int .i64 0) (fun _ => 0)
          case atStart => rfl
          case round =>
            obtain rfl := hrel
            have hcall := drawAddVersion_any a0 n0 c0 _ HC.out
            go_wp2_with fail
            refine hcall.mono ?_
            rintro e z4 ⟨ql, ml, dl, l, v, rfl, hol, hml, hsl, hv1, hv2, hz⟩
            clear hcall
            replace HP := Lib.hid (HP.out.same hz)
            replace HQ := Lib.hid (HQ.out.same hz)
            have HL := Lib.hid hol
            replace HB := Lib.hid (HB.out.trans (hz.mono HB.out.size))
            clear hz hol
            clear HC
            have hll := HL.out.len
            cases hok : addsV l v with
            | false =>
              have hcall := addVersion_any (c := dl) v HL.out.nums (by omega)
              rw [hok] at hcall
              go_wp2_with fail
              refine hcall.mono ?_
              rintro e z5 ⟨qx, mx, dx, rfl, hox, hz⟩
              clear hcall
              clear hox
              replace HP := Lib.hid (HP.out.same hz)
              replace HQ := Lib.hid (HQ.out.same hz)
              replace HB := Lib.hid (HB.out.trans (hz.mono HB.out.size))
              clear hz 
              clear HL hok hll
              have hcall := told_is (areVersions_any (c := da) HP.out.nums)
              rw [ea] at hcall
              go_wp2_with fail
              refine hcall.mono ?_
              rintro e z6 ⟨rfl, hz⟩
              clear hcall
              replace HP := Lib.hid (HP.out.same hz)
              replace HQ := Lib.hid (HQ.out.same hz)
              replace HB := Lib.hid (HB.out.trans (hz.mono HB.out.size))
              clear hz 
              go_wp2_with fail
              go_ret
              exact ⟨rfl, HB.out⟩
            | true =>
              obtain ⟨f1, f2, f3, f4⟩ := add_drop hok
              have f5 : areV (addV l v) = true := areV_yes f1
              have f6 : areV l = true := areV_yes (of_decide_eq_true hok).1
              have f7 : spans (addV l v) ≤ spans l + 1 := by unfold spans; rw [if_pos f5, if_pos f6]; exact f4
              have f8 : spans l ≤ 6 := by unfold spans; rw [if_pos f6]; have := spn_le l l.length; unfold spn; omega
              have f9 := addV_few l v
              have fl : l.length ≤ 6 := by omega
              clear hll
              clear f1 f4 f6
              have hcall := addVersion_any (c := dl) v HL.out.nums (by omega)
              rw [hok] at hcall
              clear hok
              generalize addV l v = X at f2 f3 f5 f7 f9 hcall
              generalize hsl : spans l = sl at f7 f8
              generalize hsx : spans X = sx at f7
              have HSX := Lib.hid hsx
              have HSL := Lib.hid hsl
              clear hsx hsl
              go_wp2_with fail
              refine hcall.mono ?_
              rintro e z7 ⟨qx, mx, dx, rfl, hox, hz⟩
              clear hcall
              have hxl := hox.len
              replace HP := Lib.hid (HP.out.same hz)
              replace HQ := Lib.hid (HQ.out.same hz)
              replace HL := Lib.hid (HL.out.same hz)
              have HX := Lib.hid hox
              replace HB := Lib.hid (HB.out.trans (hz.mono HB.out.size))
              clear hz hox
              have hcall := dropVersion_any (c := dx) v HX.out.nums (by omega)
              rw [f2, f3] at hcall
              go_wp2_with fail
              refine hcall.mono ?_
              rintro e z8 ⟨qy, my, dy, rfl, hoy, hz⟩
              clear hcall
              replace HP := Lib.hid (HP.out.same hz)
              replace HQ := Lib.hid (HQ.out.same hz)
              replace HL := Lib.hid (HL.out.same hz)
              replace HX := Lib.hid (HX.out.same hz)
              have HY := Lib.hid hoy
              replace HB := Lib.hid (HB.out.trans (hz.mono HB.out.size))
              clear hz hoy
              have hcall := told_is (areVersions_any (c := dx) HX.out.nums)
              rw [f5] at hcall
              go_wp2_with fail
              refine hcall.mono ?_
              rintro e z9 ⟨rfl, hz⟩
              clear hcall
              replace HP := Lib.hid (HP.out.same hz)
              replace HQ := Lib.hid (HQ.out.same hz)
              replace HL := Lib.hid (HL.out.same hz)
              replace HX := Lib.hid (HX.out.same hz)
              replace HY := Lib.hid (HY.out.same hz)
              replace HB := Lib.hid (HB.out.trans (hz.mono HB.out.size))
              clear hz 
              have hcall := equalInts_yes (c := dy) (d := dl) HY.out.nums HL.out.nums
              go_wp2_with fail
              refine hcall.mono ?_
              rintro e z10 ⟨rfl, hz⟩
              clear hcall
              replace HP := Lib.hid (HP.out.same hz)
              replace HQ := Lib.hid (HQ.out.same hz)
              replace HL := Lib.hid (HL.out.same hz)
              replace HX := Lib.hid (HX.out.same hz)
              replace HY := Lib.hid (HY.out.same hz)
              replace HB := Lib.hid (HB.out.trans (hz.mono HB.out.size))
              clear hz 
              have hcall := spansOf_any (c := dx) HX.out.nums
              rw [HSX.out] at hcall
              go_wp2_with fail
              refine hcall.mono ?_
              rintro e z11 ⟨rfl, hz⟩
              clear hcall
              replace HP := Lib.hid (HP.out.same hz)
              replace HQ := Lib.hid (HQ.out.same hz)
              replace HL := Lib.hid (HL.out.same hz)
              replace HX := Lib.hid (HX.out.same hz)
              replace HY := Lib.hid (HY.out.same hz)
              replace HB := Lib.hid (HB.out.trans (hz.mono HB.out.size))
              clear hz 
              have hcall := spansOf_any (c := dl) HL.out.nums
              rw [HSL.out] at hcall
              go_wp2_with fail
              refine hcall.mono ?_
              rintro e z12 ⟨rfl, hz⟩
              clear hcall
              replace HP := Lib.hid (HP.out.same hz)
              replace HQ := Lib.hid (HQ.out.same hz)
              replace HL := Lib.hid (HL.out.same hz)
              replace HX := Lib.hid (HX.out.same hz)
              replace HY := Lib.hid (HY.out.same hz)
              replace HB := Lib.hid (HB.out.trans (hz.mono HB.out.size))
              clear hz 
              have hle : ¬ ((sl : Int) + 1 < (sx : Int)) := by omega
              have hle2 : ¬ (sl + 1 < sx) := by omega
              clear HX HY HL HSX HSL f2 f3 f5 f7 f9 fl hxl
              have hcall := told_is (areVersions_any (c := da) HP.out.nums)
              rw [ea] at hcall
              go_wp2_with fail
              refine hcall.mono ?_
              rintro e z13 ⟨rfl, hz⟩
              clear hcall
              replace HP := Lib.hid (HP.out.same hz)
              replace HQ := Lib.hid (HQ.out.same hz)
              replace HB := Lib.hid (HB.out.trans (hz.mono HB.out.size))
              clear hz 
              go_wp2_with fail
              go_ret
              exact ⟨rfl, HB.out⟩
      · have ea : areV la = true := areV_yes ha
        by_cases hcm : common la lb = []
        · clear hn0
          have hcall := told_is (bestCommon_any (c := da) (d := db) HP.out.nums HQ.out.nums)
          rw [hN0] at hcall
          go_wp2_with fail
          refine hcall.mono ?_
          rintro e z2 ⟨rfl, hz⟩
          clear hcall
          replace HC := Lib.hid (HC.out.same hz)
          replace HP := Lib.hid (HP.out.same hz)
          replace HQ := Lib.hid (HQ.out.same hz)
          replace HB := Lib.hid (HB.out.trans (hz.mono HB.out.size))
          clear hz 
          have mixed : Try.prog.follows .mixedOrders = true := by rfl
          have k1 : ∀ i, Calls Try.prog 13 #[.slice qa ma da] (z2.drewN i) fun e w' => e = .returned (.bool (areV la)) ∧ ∃ m, w' = z2.drewN m := fun i => (areVersions_any (HP.out.nums.same (drewN_same _ _))).mono fun e w' ⟨h1, h2⟩ => ⟨h1, i, h2.symm⟩
          have k2 : ∀ i, Calls Try.prog 14 #[.slice qa ma da] (z2.drewN i) fun e w' => e = .returned (.bool (areV la)) ∧ ∃ m, w' = z2.drewN m := fun i => (specAreVersions_quiet (HP.out.nums.same (drewN_same _ _))).mono fun e w' ⟨h1, h2⟩ => ⟨h1, by obtain ⟨q, rfl⟩ := h2; exact ⟨i + q, World.drewN_drewN _ _ _⟩⟩
          have k3 : ∀ i, Calls Try.prog 12 #[.slice qb mb db, .slice qa ma da] (z2.drewN i) fun e w' => e = .returned (.int .i64 (best la lb : Int)) ∧ ∃ m, w' = z2.drewN m := fun i => (bestCommon_any (HQ.out.nums.same (drewN_same _ _)) (HP.out.nums.same (drewN_same _ _))).mono fun e w' ⟨h1, h2⟩ => ⟨by rw [best_comm la lb]; exact h1, i, h2.symm⟩
          have k4 : ∀ i, Calls Try.prog 12 #[.slice qa ma da, .slice qa ma da] (z2.drewN i) fun e w' => e = .returned (.int .i64 (la.getLastD 0)) ∧ ∃ m, w' = z2.drewN m := fun i => (bestCommon_any (HP.out.nums.same (drewN_same _ _)) (HP.out.nums.same (drewN_same _ _))).mono fun e w' ⟨h1, h2⟩ => ⟨by rw [best_self ha] at h1; exact h1, i, h2.symm⟩
          have hal := areV_len ha
          have hpl := HP.out.len
          obtain ⟨i, rfl⟩ : ∃ i, ma = i + 1 := ⟨ma - 1, by omega⟩
          obtain ⟨g, eg, _, _⟩ := HP.out.head (by omega)
          subst eg
          obtain ⟨ad, x, e3, hx, hcell⟩ := HP.out.nums.at_ (show i < i + 1 by omega)
          cases e3
          have hlast := last_get hpl
          rw [hlast] at hx
          cases hx
          have hcell2 : z2.cell? ⟨g, i, none⟩ = some (.int .i64 (la.getLastD 0)) := by
            have := hcell
            unfold Addr.add at this
            by_cases q : i = 0
            · subst q; simpa using this
            · simpa [q] using this
          have hroom := HP.out.room
          have y1 : ((i + 1 : Nat) : Int) - 1 = (i : Int) := by omega
          have y2 : (i : Int) < (i : Int) + 1 := by omega
          have y3 : (0 : Int) ≤ (i : Int) := by omega
          generalize la.getLastD 0 = lst at k4 hcell2
          clear hal hpl hcell hlast
          rw [ea] at k1 k2
          rw [hN0] at k3
          go_wp2_with fail
          go_quiet (first | (go_at_call 13; exact k1 _) | (go_at_call 14; exact k2 _) | (go_at_call 12; first | (with_reducible exact k3 _) | (with_reducible exact k4 _)))
          have hdr : ∀ i, Below z2.heap.size z2 (z2.drewN i) := fun i => drewN_same _ _
          clear k1 k2 k3 k4
          go_wp2_with fail
          refine (commonOf_any (c := da) (d := db) (HP.out.nums.same (drewN_same _ _)) (HQ.out.nums.same (drewN_same _ _)) HSA.out.wf HSB.out.wf (by omega) (by omega)).mono ?_
          rintro e z3 ⟨qc, mc, dc, rfl, hoc, hz0⟩
          have hz : Below z2.heap.size z2 z3 := (drewN_same _ _).trans hz0
          replace HC := Lib.hid (HC.out.same hz)
          replace HP := Lib.hid (HP.out.same hz)
          replace HQ := Lib.hid (HQ.out.same hz)
          replace HB := Lib.hid (HB.out.trans (hz.mono HB.out.size))
          have hcl := hoc.len
          have hmc6 : mc ≤ 6 := by
            have h1 := common_few la lb
            have h2 := HP.out.len
            omega
          have HM := Lib.hid hoc
          clear hz hz0 hoc hdr
          rw [hcm] at hcl
          obtain rfl : 0 = mc := hcl
          clear hcm HM
          go_wp2_with fail
          go_loop [7] (fun i => i = .int .i64 0) (fun _ => 0)
          case atStart => rfl
          case round =>
            obtain rfl := hrel
            have hcall := drawAddVersion_any a0 n0 c0 _ HC.out
            go_wp2_with fail
            refine hcall.mono ?_
            rintro e z4 ⟨ql, ml, dl, l, v, rfl, hol, hml, hsl, hv1, hv2, hz⟩
            clear hcall
            replace HP := Lib.hid (HP.out.same hz)
            replace HQ := Lib.hid (HQ.out.same hz)
            have HL := Lib.hid hol
            replace HB := Lib.hid (HB.out.trans (hz.mono HB.out.size))
            clear hz hol
            clear HC
            have hll := HL.out.len
            cases hok : addsV l v with
            | false =>
              have hcall := addVersion_any (c := dl) v HL.out.nums (by omega)
              rw [hok] at hcall
              go_wp2_with fail
              refine hcall.mono ?_
              rintro e z5 ⟨qx, mx, dx, rfl, hox, hz⟩
              clear hcall
              clear hox
              replace HP := Lib.hid (HP.out.same hz)
              replace HQ := Lib.hid (HQ.out.same hz)
              replace HB := Lib.hid (HB.out.trans (hz.mono HB.out.size))
              clear hz 
              clear HL hok hll
              go_wp2_with fail
              go_ret
              exact ⟨rfl, HB.out⟩
            | true =>
              obtain ⟨f1, f2, f3, f4⟩ := add_drop hok
              have f5 : areV (addV l v) = true := areV_yes f1
              have f6 : areV l = true := areV_yes (of_decide_eq_true hok).1
              have f7 : spans (addV l v) ≤ spans l + 1 := by unfold spans; rw [if_pos f5, if_pos f6]; exact f4
              have f8 : spans l ≤ 6 := by unfold spans; rw [if_pos f6]; have := spn_le l l.length; unfold spn; omega
              have f9 := addV_few l v
              have fl : l.length ≤ 6 := by omega
              clear hll
              clear f1 f4 f6
              have hcall := addVersion_any (c := dl) v HL.out.nums (by omega)
              rw [hok] at hcall
              clear hok
              generalize addV l v = X at f2 f3 f5 f7 f9 hcall
              generalize hsl : spans l = sl at f7 f8
              generalize hsx : spans X = sx at f7
              have HSX := Lib.hid hsx
              have HSL := Lib.hid hsl
              clear hsx hsl
              go_wp2_with fail
              refine hcall.mono ?_
              rintro e z6 ⟨qx, mx, dx, rfl, hox, hz⟩
              clear hcall
              have hxl := hox.len
              replace HP := Lib.hid (HP.out.same hz)
              replace HQ := Lib.hid (HQ.out.same hz)
              replace HL := Lib.hid (HL.out.same hz)
              have HX := Lib.hid hox
              replace HB := Lib.hid (HB.out.trans (hz.mono HB.out.size))
              clear hz hox
              have hcall := dropVersion_any (c := dx) v HX.out.nums (by omega)
              rw [f2, f3] at hcall
              go_wp2_with fail
              refine hcall.mono ?_
              rintro e z7 ⟨qy, my, dy, rfl, hoy, hz⟩
              clear hcall
              replace HP := Lib.hid (HP.out.same hz)
              replace HQ := Lib.hid (HQ.out.same hz)
              replace HL := Lib.hid (HL.out.same hz)
              replace HX := Lib.hid (HX.out.same hz)
              have HY := Lib.hid hoy
              replace HB := Lib.hid (HB.out.trans (hz.mono HB.out.size))
              clear hz hoy
              have hcall := told_is (areVersions_any (c := dx) HX.out.nums)
              rw [f5] at hcall
              go_wp2_with fail
              refine hcall.mono ?_
              rintro e z8 ⟨rfl, hz⟩
              clear hcall
              replace HP := Lib.hid (HP.out.same hz)
              replace HQ := Lib.hid (HQ.out.same hz)
              replace HL := Lib.hid (HL.out.same hz)
              replace HX := Lib.hid (HX.out.same hz)
              replace HY := Lib.hid (HY.out.same hz)
              replace HB := Lib.hid (HB.out.trans (hz.mono HB.out.size))
              clear hz 
              have hcall := equalInts_yes (c := dy) (d := dl) HY.out.nums HL.out.nums
              go_wp2_with fail
              refine hcall.mono ?_
              rintro e z9 ⟨rfl, hz⟩
              clear hcall
              replace HP := Lib.hid (HP.out.same hz)
              replace HQ := Lib.hid (HQ.out.same hz)
              replace HL := Lib.hid (HL.out.same hz)
              replace HX := Lib.hid (HX.out.same hz)
              replace HY := Lib.hid (HY.out.same hz)
              replace HB := Lib.hid (HB.out.trans (hz.mono HB.out.size))
              clear hz 
              have hcall := spansOf_any (c := dx) HX.out.nums
              rw [HSX.out] at hcall
              go_wp2_with fail
              refine hcall.mono ?_
              rintro e z10 ⟨rfl, hz⟩
              clear hcall
              replace HP := Lib.hid (HP.out.same hz)
              replace HQ := Lib.hid (HQ.out.same hz)
              replace HL := Lib.hid (HL.out.same hz)
              replace HX := Lib.hid (HX.out.same hz)
              replace HY := Lib.hid (HY.out.same hz)
              replace HB := Lib.hid (HB.out.trans (hz.mono HB.out.size))
              clear hz 
              have hcall := spansOf_any (c := dl) HL.out.nums
              rw [HSL.out] at hcall
              go_wp2_with fail
              refine hcall.mono ?_
              rintro e z11 ⟨rfl, hz⟩
              clear hcall
              replace HP := Lib.hid (HP.out.same hz)
              replace HQ := Lib.hid (HQ.out.same hz)
              replace HL := Lib.hid (HL.out.same hz)
              replace HX := Lib.hid (HX.out.same hz)
              replace HY := Lib.hid (HY.out.same hz)
              replace HB := Lib.hid (HB.out.trans (hz.mono HB.out.size))
              clear hz 
              have hle : ¬ ((sl : Int) + 1 < (sx : Int)) := by omega
              have hle2 : ¬ (sl + 1 < sx) := by omega
              clear HX HY HL HSX HSL f2 f3 f5 f7 f9 fl hxl
              go_wp2_with fail
              go_ret
              exact ⟨rfl, HB.out⟩
        · have eb : areV lb = false := areV_no (Decidable.byContradiction fun q => hcm ((best_none ha q).2 hn0))
          clear hn0
          have hcall := told_is (bestCommon_any (c := da) (d := db) HP.out.nums HQ.out.nums)
          rw [hN0] at hcall
          go_wp2_with fail
          refine hcall.mono ?_
          rintro e z2 ⟨rfl, hz⟩
          clear hcall
          replace HC := Lib.hid (HC.out.same hz)
          replace HP := Lib.hid (HP.out.same hz)
          replace HQ := Lib.hid (HQ.out.same hz)
          replace HB := Lib.hid (HB.out.trans (hz.mono HB.out.size))
          clear hz 
          have mixed : Try.prog.follows .mixedOrders = true := by rfl
          have k1 : ∀ i, Calls Try.prog 13 #[.slice qa ma da] (z2.drewN i) fun e w' => e = .returned (.bool (areV la)) ∧ ∃ m, w' = z2.drewN m := fun i => (areVersions_any (HP.out.nums.same (drewN_same _ _))).mono fun e w' ⟨h1, h2⟩ => ⟨h1, i, h2.symm⟩
          have k2 : ∀ i, Calls Try.prog 14 #[.slice qa ma da] (z2.drewN i) fun e w' => e = .returned (.bool (areV la)) ∧ ∃ m, w' = z2.drewN m := fun i => (specAreVersions_quiet (HP.out.nums.same (drewN_same _ _))).mono fun e w' ⟨h1, h2⟩ => ⟨h1, by obtain ⟨q, rfl⟩ := h2; exact ⟨i + q, World.drewN_drewN _ _ _⟩⟩
          have k3 : ∀ i, Calls Try.prog 12 #[.slice qb mb db, .slice qa ma da] (z2.drewN i) fun e w' => e = .returned (.int .i64 (best la lb : Int)) ∧ ∃ m, w' = z2.drewN m := fun i => (bestCommon_any (HQ.out.nums.same (drewN_same _ _)) (HP.out.nums.same (drewN_same _ _))).mono fun e w' ⟨h1, h2⟩ => ⟨by rw [best_comm la lb]; exact h1, i, h2.symm⟩
          have k4 : ∀ i, Calls Try.prog 12 #[.slice qa ma da, .slice qa ma da] (z2.drewN i) fun e w' => e = .returned (.int .i64 (la.getLastD 0)) ∧ ∃ m, w' = z2.drewN m := fun i => (bestCommon_any (HP.out.nums.same (drewN_same _ _)) (HP.out.nums.same (drewN_same _ _))).mono fun e w' ⟨h1, h2⟩ => ⟨by rw [best_self ha] at h1; exact h1, i, h2.symm⟩
          have hal := areV_len ha
          have hpl := HP.out.len
          obtain ⟨i, rfl⟩ : ∃ i, ma = i + 1 := ⟨ma - 1, by omega⟩
          obtain ⟨g, eg, _, _⟩ := HP.out.head (by omega)
          subst eg
          obtain ⟨ad, x, e3, hx, hcell⟩ := HP.out.nums.at_ (show i < i + 1 by omega)
          cases e3
          have hlast := last_get hpl
          rw [hlast] at hx
          cases hx
          have hcell2 : z2.cell? ⟨g, i, none⟩ = some (.int .i64 (la.getLastD 0)) := by
            have := hcell
            unfold Addr.add at this
            by_cases q : i = 0
            · subst q; simpa using this
            · simpa [q] using this
          have hroom := HP.out.room
          have y1 : ((i + 1 : Nat) : Int) - 1 = (i : Int) := by omega
          have y2 : (i : Int) < (i : Int) + 1 := by omega
          have y3 : (0 : Int) ≤ (i : Int) := by omega
          generalize la.getLastD 0 = lst at k4 hcell2
          clear hal hpl hcell hlast
          rw [ea] at k1 k2
          rw [hN0] at k3
          go_wp2_with fail
          go_quiet (first | (go_at_call 13; exact k1 _) | (go_at_call 14; exact k2 _) | (go_at_call 12; first | (with_reducible exact k3 _) | (with_reducible exact k4 _)))
          have hdr : ∀ i, Below z2.heap.size z2 (z2.drewN i) := fun i => drewN_same _ _
          clear k1 k2 k3 k4
          go_wp2_with fail
          refine (commonOf_any (c := da) (d := db) (HP.out.nums.same (drewN_same _ _)) (HQ.out.nums.same (drewN_same _ _)) HSA.out.wf HSB.out.wf (by omega) (by omega)).mono ?_
          rintro e z3 ⟨qc, mc, dc, rfl, hoc, hz0⟩
          have hz : Below z2.heap.size z2 z3 := (drewN_same _ _).trans hz0
          replace HC := Lib.hid (HC.out.same hz)
          replace HP := Lib.hid (HP.out.same hz)
          replace HQ := Lib.hid (HQ.out.same hz)
          replace HB := Lib.hid (HB.out.trans (hz.mono HB.out.size))
          have hcl := hoc.len
          have hmc6 : mc ≤ 6 := by
            have h1 := common_few la lb
            have h2 := HP.out.len
            omega
          have HM := Lib.hid hoc
          clear hz hz0 hoc hdr
          have hmc : 0 < mc := by
            rw [← hcl]
            exact List.length_pos_iff.2 hcm
          have hmcI : (0 : Int) < (mc : Int) := by omega
          clear hcm hcl HM
          go_wp2_with fail
          go_loop [7] (fun i => i = .int .i64 0) (fun _ => 0)
          case atStart => rfl
          case round =>
            obtain rfl := hrel
            have hcall := drawAddVersion_any a0 n0 c0 _ HC.out
            go_wp2_with fail
            refine hcall.mono ?_
            rintro e z4 ⟨ql, ml, dl, l, v, rfl, hol, hml, hsl, hv1, hv2, hz⟩
            clear hcall
            replace HP := Lib.hid (HP.out.same hz)
            replace HQ := Lib.hid (HQ.out.same hz)
            have HL := Lib.hid hol
            replace HB := Lib.hid (HB.out.trans (hz.mono HB.out.size))
            clear hz hol
            clear HC
            have hll := HL.out.len
            cases hok : addsV l v with
            | false =>
              have hcall := addVersion_any (c := dl) v HL.out.nums (by omega)
              rw [hok] at hcall
              go_wp2_with fail
              refine hcall.mono ?_
              rintro e z5 ⟨qx, mx, dx, rfl, hox, hz⟩
              clear hcall
              clear hox
              replace HP := Lib.hid (HP.out.same hz)
              replace HQ := Lib.hid (HQ.out.same hz)
              replace HB := Lib.hid (HB.out.trans (hz.mono HB.out.size))
              clear hz 
              clear HL hok hll
              have hcall := told_is (areVersions_any (c := da) HP.out.nums)
              rw [ea] at hcall
              go_wp2_with fail
              refine hcall.mono ?_
              rintro e z6 ⟨rfl, hz⟩
              clear hcall
              replace HP := Lib.hid (HP.out.same hz)
              replace HQ := Lib.hid (HQ.out.same hz)
              replace HB := Lib.hid (HB.out.trans (hz.mono HB.out.size))
              clear hz 
              have hcall := told_is (areVersions_any (c := db) HQ.out.nums)
              rw [eb] at hcall
              go_wp2_with fail
              refine hcall.mono ?_
              rintro e z7 ⟨rfl, hz⟩
              clear hcall
              replace HP := Lib.hid (HP.out.same hz)
              replace HQ := Lib.hid (HQ.out.same hz)
              replace HB := Lib.hid (HB.out.trans (hz.mono HB.out.size))
              clear hz 
              go_wp2_with fail
              go_ret
              exact ⟨rfl, HB.out⟩
            | true =>
              obtain ⟨f1, f2, f3, f4⟩ := add_drop hok
              have f5 : areV (addV l v) = true := areV_yes f1
              have f6 : areV l = true := areV_yes (of_decide_eq_true hok).1
              have f7 : spans (addV l v) ≤ spans l + 1 := by unfold spans; rw [if_pos f5, if_pos f6]; exact f4
              have f8 : spans l ≤ 6 := by unfold spans; rw [if_pos f6]; have := spn_le l l.length; unfold spn; omega
              have f9 := addV_few l v
              have fl : l.length ≤ 6 := by omega
              clear hll
              clear f1 f4 f6
              have hcall := addVersion_any (c := dl) v HL.out.nums (by omega)
              rw [hok] at hcall
              clear hok
              generalize addV l v = X at f2 f3 f5 f7 f9 hcall
              generalize hsl : spans l = sl at f7 f8
              generalize hsx : spans X = sx at f7
              have HSX := Lib.hid hsx
              have HSL := Lib.hid hsl
              clear hsx hsl
              go_wp2_with fail
              refine hcall.mono ?_
              rintro e z8 ⟨qx, mx, dx, rfl, hox, hz⟩
              clear hcall
              have hxl := hox.len
              replace HP := Lib.hid (HP.out.same hz)
              replace HQ := Lib.hid (HQ.out.same hz)
              replace HL := Lib.hid (HL.out.same hz)
              have HX := Lib.hid hox
              replace HB := Lib.hid (HB.out.trans (hz.mono HB.out.size))
              clear hz hox
              have hcall := dropVersion_any (c := dx) v HX.out.nums (by omega)
              rw [f2, f3] at hcall
              go_wp2_with fail
              refine hcall.mono ?_
              rintro e z9 ⟨qy, my, dy, rfl, hoy, hz⟩
              clear hcall
              replace HP := Lib.hid (HP.out.same hz)
              replace HQ := Lib.hid (HQ.out.same hz)
              replace HL := Lib.hid (HL.out.same hz)
              replace HX := Lib.hid (HX.out.same hz)
              have HY := Lib.hid hoy
              replace HB := Lib.hid (HB.out.trans (hz.mono HB.out.size))
              clear hz hoy
              have hcall := told_is (areVersions_any (c := dx) HX.out.nums)
              rw [f5] at hcall
              go_wp2_with fail
              refine hcall.mono ?_
              rintro e z10 ⟨rfl, hz⟩
              clear hcall
              replace HP := Lib.hid (HP.out.same hz)
              replace HQ := Lib.hid (HQ.out.same hz)
              replace HL := Lib.hid (HL.out.same hz)
              replace HX := Lib.hid (HX.out.same hz)
              replace HY := Lib.hid (HY.out.same hz)
              replace HB := Lib.hid (HB.out.trans (hz.mono HB.out.size))
              clear hz 
              have hcall := equalInts_yes (c := dy) (d := dl) HY.out.nums HL.out.nums
              go_wp2_with fail
              refine hcall.mono ?_
              rintro e z11 ⟨rfl, hz⟩
              clear hcall
              replace HP := Lib.hid (HP.out.same hz)
              replace HQ := Lib.hid (HQ.out.same hz)
              replace HL := Lib.hid (HL.out.same hz)
              replace HX := Lib.hid (HX.out.same hz)
              replace HY := Lib.hid (HY.out.same hz)
              replace HB := Lib.hid (HB.out.trans (hz.mono HB.out.size))
              clear hz 
              have hcall := spansOf_any (c := dx) HX.out.nums
              rw [HSX.out] at hcall
              go_wp2_with fail
              refine hcall.mono ?_
              rintro e z12 ⟨rfl, hz⟩
              clear hcall
              replace HP := Lib.hid (HP.out.same hz)
              replace HQ := Lib.hid (HQ.out.same hz)
              replace HL := Lib.hid (HL.out.same hz)
              replace HX := Lib.hid (HX.out.same hz)
              replace HY := Lib.hid (HY.out.same hz)
              replace HB := Lib.hid (HB.out.trans (hz.mono HB.out.size))
              clear hz 
              have hcall := spansOf_any (c := dl) HL.out.nums
              rw [HSL.out] at hcall
              go_wp2_with fail
              refine hcall.mono ?_
              rintro e z13 ⟨rfl, hz⟩
              clear hcall
              replace HP := Lib.hid (HP.out.same hz)
              replace HQ := Lib.hid (HQ.out.same hz)
              replace HL := Lib.hid (HL.out.same hz)
              replace HX := Lib.hid (HX.out.same hz)
              replace HY := Lib.hid (HY.out.same hz)
              replace HB := Lib.hid (HB.out.trans (hz.mono HB.out.size))
              clear hz 
              have hle : ¬ ((sl : Int) + 1 < (sx : Int)) := by omega
              have hle2 : ¬ (sl + 1 < sx) := by omega
              clear HX HY HL HSX HSL f2 f3 f5 f7 f9 fl hxl
              have hcall := told_is (areVersions_any (c := da) HP.out.nums)
              rw [ea] at hcall
              go_wp2_with fail
              refine hcall.mono ?_
              rintro e z14 ⟨rfl, hz⟩
              clear hcall
              replace HP := Lib.hid (HP.out.same hz)
              replace HQ := Lib.hid (HQ.out.same hz)
              replace HB := Lib.hid (HB.out.trans (hz.mono HB.out.size))
              clear hz 
              have hcall := told_is (areVersions_any (c := db) HQ.out.nums)
              rw [eb] at hcall
              go_wp2_with fail
              refine hcall.mono ?_
              rintro e z15 ⟨rfl, hz⟩
              clear hcall
              replace HP := Lib.hid (HP.out.same hz)
              replace HQ := Lib.hid (HQ.out.same hz)
              replace HB := Lib.hid (HB.out.trans (hz.mono HB.out.size))
              clear hz 
              go_wp2_with fail
              go_ret
              exact ⟨rfl, HB.out⟩
    · obtain ⟨⟨hcm, ha⟩, hb⟩ := best_one.1 hn0
      have ea : areV la = true := areV_yes ha
      have eb : areV lb = true := areV_yes hb
      have hin := best_in hn0
      have h9 := best_le la lb
      have hms : ∀ x ∈ common la lb, x ≤ (best la lb : Int) := fun x hx => best_most ha hb hx
      obtain ⟨N, hN⟩ : ∃ N : Nat, best la lb = N := ⟨_, rfl⟩
      rw [hN] at h9 hms
      have hN1 : 0 < N := by omega
      have hNI : (0 : Int) < (N : Int) := by omega
      have HMS := Lib.hid hms
      clear hms hn0 hb
      have hcall := told_is (bestCommon_any (c := da) (d := db) HP.out.nums HQ.out.nums)
      rw [hN] at hcall
      go_wp2_with fail
      refine hcall.mono ?_
      rintro e z2 ⟨rfl, hz⟩
      clear hcall
      replace HC := Lib.hid (HC.out.same hz)
      replace HP := Lib.hid (HP.out.same hz)
      replace HQ := Lib.hid (HQ.out.same hz)
      replace HB := Lib.hid (HB.out.trans (hz.mono HB.out.size))
      clear hz 
      have mixed : Try.prog.follows .mixedOrders = true := by rfl
      have k1 : ∀ i, Calls Try.prog 13 #[.slice qa ma da] (z2.drewN i) fun e w' => e = .returned (.bool (areV la)) ∧ ∃ m, w' = z2.drewN m := fun i => (areVersions_any (HP.out.nums.same (drewN_same _ _))).mono fun e w' ⟨h1, h2⟩ => ⟨h1, i, h2.symm⟩
      have k2 : ∀ i, Calls Try.prog 14 #[.slice qa ma da] (z2.drewN i) fun e w' => e = .returned (.bool (areV la)) ∧ ∃ m, w' = z2.drewN m := fun i => (specAreVersions_quiet (HP.out.nums.same (drewN_same _ _))).mono fun e w' ⟨h1, h2⟩ => ⟨h1, by obtain ⟨q, rfl⟩ := h2; exact ⟨i + q, World.drewN_drewN _ _ _⟩⟩
      have k3 : ∀ i, Calls Try.prog 12 #[.slice qb mb db, .slice qa ma da] (z2.drewN i) fun e w' => e = .returned (.int .i64 (best la lb : Int)) ∧ ∃ m, w' = z2.drewN m := fun i => (bestCommon_any (HQ.out.nums.same (drewN_same _ _)) (HP.out.nums.same (drewN_same _ _))).mono fun e w' ⟨h1, h2⟩ => ⟨by rw [best_comm la lb]; exact h1, i, h2.symm⟩
      have k5 : ∀ i, Calls Try.prog 15 #[.slice qa ma da, .int .i64 (best la lb : Int)] (z2.drewN i) fun e w' => e = .returned (.bool true) ∧ ∃ m, w' = z2.drewN m := fun i => (contains_any _ (HP.out.nums.same (drewN_same _ _))).mono fun e w' ⟨h1, h2⟩ => ⟨by rw [decide_eq_true hin.1] at h1; exact h1, i, h2.symm⟩
      have k6 : ∀ i, Calls Try.prog 15 #[.slice qb mb db, .int .i64 (best la lb : Int)] (z2.drewN i) fun e w' => e = .returned (.bool true) ∧ ∃ m, w' = z2.drewN m := fun i => (contains_any _ (HQ.out.nums.same (drewN_same _ _))).mono fun e w' ⟨h1, h2⟩ => ⟨by rw [decide_eq_true hin.2] at h1; exact h1, i, h2.symm⟩
      have k4 : ∀ i, Calls Try.prog 12 #[.slice qa ma da, .slice qa ma da] (z2.drewN i) fun e w' => e = .returned (.int .i64 (la.getLastD 0)) ∧ ∃ m, w' = z2.drewN m := fun i => (bestCommon_any (HP.out.nums.same (drewN_same _ _)) (HP.out.nums.same (drewN_same _ _))).mono fun e w' ⟨h1, h2⟩ => ⟨by rw [best_self ha] at h1; exact h1, i, h2.symm⟩
      have hal := areV_len ha
      have hpl := HP.out.len
      obtain ⟨i, rfl⟩ : ∃ i, ma = i + 1 := ⟨ma - 1, by omega⟩
      obtain ⟨g, eg, _, _⟩ := HP.out.head (by omega)
      subst eg
      obtain ⟨ad, x, e3, hx, hcell⟩ := HP.out.nums.at_ (show i < i + 1 by omega)
      cases e3
      have hlast := last_get hpl
      rw [hlast] at hx
      cases hx
      have hcell2 : z2.cell? ⟨g, i, none⟩ = some (.int .i64 (la.getLastD 0)) := by
        have := hcell
        unfold Addr.add at this
        by_cases q : i = 0
        · subst q; simpa using this
        · simpa [q] using this
      have hroom := HP.out.room
      have y1 : ((i + 1 : Nat) : Int) - 1 = (i : Int) := by omega
      have y2 : (i : Int) < (i : Int) + 1 := by omega
      have y3 : (0 : Int) ≤ (i : Int) := by omega
      generalize la.getLastD 0 = lst at k4 hcell2
      clear hal hpl hcell hlast
      rw [ea] at k1 k2
      rw [hN] at k3 k5 k6
      go_wp2_with fail
      go_quiet (first | (go_at_call 13; exact k1 _) | (go_at_call 14; exact k2 _) | (go_at_call 12; first | (with_reducible exact k3 _) | (with_reducible exact k4 _)) | (go_at_call 15; first | (with_reducible exact k5 _) | (with_reducible exact k6 _)))
      have hdr : ∀ i, Below z2.heap.size z2 (z2.drewN i) := fun i => drewN_same _ _
      clear k1 k2 k3 k4 k5 k6
      go_wp2_with fail
      refine (commonOf_any (c := da) (d := db) (HP.out.nums.same (drewN_same _ _)) (HQ.out.nums.same (drewN_same _ _)) HSA.out.wf HSB.out.wf (by omega) (by omega)).mono ?_
      rintro e z3 ⟨qc, mc, dc, rfl, hoc, hz0⟩
      have hz : Below z2.heap.size z2 z3 := (drewN_same _ _).trans hz0
      replace HC := Lib.hid (HC.out.same hz)
      replace HP := Lib.hid (HP.out.same hz)
      replace HQ := Lib.hid (HQ.out.same hz)
      replace HB := Lib.hid (HB.out.trans (hz.mono HB.out.size))
      have hcl := hoc.len
      have hmc6 : mc ≤ 6 := by
        have h1 := common_few la lb
        have h2 := HP.out.len
        omega
      have HM := Lib.hid hoc
      clear hz hz0 hoc hdr
      have hmc : 0 < mc := by
        rw [← hcl]
        exact List.length_pos_iff.2 hcm
      have hmcI : (0 : Int) < (mc : Int) := by omega
      clear hcm hcl
      go_wp2_with fail
      go_loop [7] (fun i => ∃ j : Nat, j ≤ mc ∧ i = .int .i64 j) (fun i => mc - (intOf i).toNat)
      case atStart => exact ⟨0, Nat.zero_le _, rfl⟩
      case round =>
        obtain ⟨j, hj, rfl⟩ := hrel
        by_cases hlt : j < mc
        · obtain ⟨ad, x, rfl, hx, hcx⟩ := HM.out.nums.at_ hlt
          have hle : ¬ (N : Int) < x := by
            have := HMS.out x (List.mem_of_getElem? hx)
            omega
          clear hx
          go_wp2_with fail
          go_round
          case rel => exact ⟨j + 1, by omega, by go_num⟩
          case measure => simp [intOf]; omega
        · obtain rfl : j = mc := by omega
          clear HM HMS
          have hcall := drawAddVersion_any a0 n0 c0 _ HC.out
          go_wp2_with fail
          refine hcall.mono ?_
          rintro e z4 ⟨ql, ml, dl, l, v, rfl, hol, hml, hsl, hv1, hv2, hz⟩
          clear hcall
          replace HP := Lib.hid (HP.out.same hz)
          replace HQ := Lib.hid (HQ.out.same hz)
          have HL := Lib.hid hol
          replace HB := Lib.hid (HB.out.trans (hz.mono HB.out.size))
          clear hz hol
          clear HC
          have hll := HL.out.len
          cases hok : addsV l v with
          | false =>
            have hcall := addVersion_any (c := dl) v HL.out.nums (by omega)
            rw [hok] at hcall
            go_wp2_with fail
            refine hcall.mono ?_
            rintro e z5 ⟨qx, mx, dx, rfl, hox, hz⟩
            clear hcall
            clear hox
            replace HP := Lib.hid (HP.out.same hz)
            replace HQ := Lib.hid (HQ.out.same hz)
            replace HB := Lib.hid (HB.out.trans (hz.mono HB.out.size))
            clear hz 
            clear HL hok hll
            have hcall := told_is (areVersions_any (c := da) HP.out.nums)
            rw [ea] at hcall
            go_wp2_with fail
            refine hcall.mono ?_
            rintro e z6 ⟨rfl, hz⟩
            clear hcall
            replace HP := Lib.hid (HP.out.same hz)
            replace HQ := Lib.hid (HQ.out.same hz)
            replace HB := Lib.hid (HB.out.trans (hz.mono HB.out.size))
            clear hz 
            have hcall := told_is (areVersions_any (c := db) HQ.out.nums)
            rw [eb] at hcall
            go_wp2_with fail
            refine hcall.mono ?_
            rintro e z7 ⟨rfl, hz⟩
            clear hcall
            replace HP := Lib.hid (HP.out.same hz)
            replace HQ := Lib.hid (HQ.out.same hz)
            replace HB := Lib.hid (HB.out.trans (hz.mono HB.out.size))
            clear hz 
            go_wp2_with fail
            go_ret
            exact ⟨rfl, HB.out⟩
          | true =>
            obtain ⟨f1, f2, f3, f4⟩ := add_drop hok
            have f5 : areV (addV l v) = true := areV_yes f1
            have f6 : areV l = true := areV_yes (of_decide_eq_true hok).1
            have f7 : spans (addV l v) ≤ spans l + 1 := by unfold spans; rw [if_pos f5, if_pos f6]; exact f4
            have f8 : spans l ≤ 6 := by unfold spans; rw [if_pos f6]; have := spn_le l l.length; unfold spn; omega
            have f9 := addV_few l v
            have fl : l.length ≤ 6 := by omega
            clear hll
            clear f1 f4 f6
            have hcall := addVersion_any (c := dl) v HL.out.nums (by omega)
            rw [hok] at hcall
            clear hok
            generalize addV l v = X at f2 f3 f5 f7 f9 hcall
            generalize hsl : spans l = sl at f7 f8
            generalize hsx : spans X = sx at f7
            have HSX := Lib.hid hsx
            have HSL := Lib.hid hsl
            clear hsx hsl
            go_wp2_with fail
            refine hcall.mono ?_
            rintro e z8 ⟨qx, mx, dx, rfl, hox, hz⟩
            clear hcall
            have hxl := hox.len
            replace HP := Lib.hid (HP.out.same hz)
            replace HQ := Lib.hid (HQ.out.same hz)
            replace HL := Lib.hid (HL.out.same hz)
            have HX := Lib.hid hox
            replace HB := Lib.hid (HB.out.trans (hz.mono HB.out.size))
            clear hz hox
            have hcall := dropVersion_any (c := dx) v HX.out.nums (by omega)
            rw [f2, f3] at hcall
            go_wp2_with fail
            refine hcall.mono ?_
            rintro e z9 ⟨qy, my, dy, rfl, hoy, hz⟩
            clear hcall
            replace HP := Lib.hid (HP.out.same hz)
            replace HQ := Lib.hid (HQ.out.same hz)
            replace HL := Lib.hid (HL.out.same hz)
            replace HX := Lib.hid (HX.out.same hz)
            have HY := Lib.hid hoy
            replace HB := Lib.hid (HB.out.trans (hz.mono HB.out.size))
            clear hz hoy
            have hcall := told_is (areVersions_any (c := dx) HX.out.nums)
            rw [f5] at hcall
            go_wp2_with fail
            refine hcall.mono ?_
            rintro e z10 ⟨rfl, hz⟩
            clear hcall
            replace HP := Lib.hid (HP.out.same hz)
            replace HQ := Lib.hid (HQ.out.same hz)
            replace HL := Lib.hid (HL.out.same hz)
            replace HX := Lib.hid (HX.out.same hz)
            replace HY := Lib.hid (HY.out.same hz)
            replace HB := Lib.hid (HB.out.trans (hz.mono HB.out.size))
            clear hz 
            have hcall := equalInts_yes (c := dy) (d := dl) HY.out.nums HL.out.nums
            go_wp2_with fail
            refine hcall.mono ?_
            rintro e z11 ⟨rfl, hz⟩
            clear hcall
            replace HP := Lib.hid (HP.out.same hz)
            replace HQ := Lib.hid (HQ.out.same hz)
            replace HL := Lib.hid (HL.out.same hz)
            replace HX := Lib.hid (HX.out.same hz)
            replace HY := Lib.hid (HY.out.same hz)
            replace HB := Lib.hid (HB.out.trans (hz.mono HB.out.size))
            clear hz 
            have hcall := spansOf_any (c := dx) HX.out.nums
            rw [HSX.out] at hcall
            go_wp2_with fail
            refine hcall.mono ?_
            rintro e z12 ⟨rfl, hz⟩
            clear hcall
            replace HP := Lib.hid (HP.out.same hz)
            replace HQ := Lib.hid (HQ.out.same hz)
            replace HL := Lib.hid (HL.out.same hz)
            replace HX := Lib.hid (HX.out.same hz)
            replace HY := Lib.hid (HY.out.same hz)
            replace HB := Lib.hid (HB.out.trans (hz.mono HB.out.size))
            clear hz 
            have hcall := spansOf_any (c := dl) HL.out.nums
            rw [HSL.out] at hcall
            go_wp2_with fail
            refine hcall.mono ?_
            rintro e z13 ⟨rfl, hz⟩
            clear hcall
            replace HP := Lib.hid (HP.out.same hz)
            replace HQ := Lib.hid (HQ.out.same hz)
            replace HL := Lib.hid (HL.out.same hz)
            replace HX := Lib.hid (HX.out.same hz)
            replace HY := Lib.hid (HY.out.same hz)
            replace HB := Lib.hid (HB.out.trans (hz.mono HB.out.size))
            clear hz 
            have hle : ¬ ((sl : Int) + 1 < (sx : Int)) := by omega
            have hle2 : ¬ (sl + 1 < sx) := by omega
            clear HX HY HL HSX HSL f2 f3 f5 f7 f9 fl hxl
            have hcall := told_is (areVersions_any (c := da) HP.out.nums)
            rw [ea] at hcall
            go_wp2_with fail
            refine hcall.mono ?_
            rintro e z14 ⟨rfl, hz⟩
            clear hcall
            replace HP := Lib.hid (HP.out.same hz)
            replace HQ := Lib.hid (HQ.out.same hz)
            replace HB := Lib.hid (HB.out.trans (hz.mono HB.out.size))
            clear hz 
            have hcall := told_is (areVersions_any (c := db) HQ.out.nums)
            rw [eb] at hcall
            go_wp2_with fail
            refine hcall.mono ?_
            rintro e z15 ⟨rfl, hz⟩
            clear hcall
            replace HP := Lib.hid (HP.out.same hz)
            replace HQ := Lib.hid (HQ.out.same hz)
            replace HB := Lib.hid (HB.out.trans (hz.mono HB.out.size))
            clear hz 
            go_wp2_with fail
            go_ret
            exact ⟨rfl, HB.out⟩

set_option maxRecDepth 100000 in
theorem lifted (os : Os) (started : os.Started) (H : Type) (enc : TypeId × Value → H) :
    ReturnsInHanded {} Try.checked os 3 .any (Rows.fnVersionsSpec.pre6 enc Try.prog Try.f3 Rows.fnVersionsRow.domain false) (Rows.fnVersionsSpec.post enc Try.prog Try.f3 false true false false) := by
  refine returnsInHanded_of_change (C := Try.checked) own started (by kernel_rfl) Try.func3
    (ChangeSpec.witness6 (enc := enc) (C := Try.checked) false ⟨#[], #[.slice none 0 0], []⟩ 8 (by kernel_rfl) (by kernel_rfl) (by kernel_rfl) (by kernel_rfl)) ?_
  intro W base args ds gs before hval0 hW hcnd _
  have hval : ∀ (j : Nat) t v, Try.f3.params[j]? = some t → args[j]? = some v → Value.okWide Try.prog W .any base t v := hval0
  have hW' := hW
  obtain ⟨p, q, hA0, hV, rfl, hfz, hnd⟩ := hW
  have hA : DataW.TrodAll enc Try.prog W 0 (fun _ => true) true Try.f3.params.toList args.toList ds p := hA0
  rw [Try.params3] at hA hval
  obtain ⟨v0, vs0, d0, ds0, p0, q0, hargs, rfl, rfl, h0, r0⟩ := trodAll_cons hA
  obtain ⟨rfl, rfl, rfl⟩ := trodAll_nil r0
  obtain rfl : args = #[v0] := by cases args; simp_all
  obtain ⟨rfl, rfl⟩ := trodVars_none hV
  have h0k := h0
  have hlt0 : ∀ x ∈ p0, x.block < W.heap.size := fun x hx => by simpa using hW'.lt x (by simp [hx])
  obtain ⟨a0, n0, c0, l0, rfl, K0, F0, R0⟩ := open_nums Try.underlying22 Try.underlying5 byte_cells (hval 0 22 v0 rfl rfl) h0
  clear hA0 hval0
  simp only [List.append_nil] at hW'
  refine (walk a0 n0 c0 l0 W K0 F0 R0).mono fun e W' ⟨he, hb⟩ => ?_
  subst he
  exact ⟨_, rfl, ⟨_, _, _, [], _, [], hW', (trodAll_cons_mk (shut_bool Try.underlying4 _) trodAll_mk0), (trodAll_cons_mk (Below.trod laidOut (by kernel_rfl) (of_decide_eq_true (by kernel_rfl)) h0k hb hlt0) trodAll_mk0), rfl, hb.frame _, fun h => by cases h⟩⟩

theorem over : Rows.fnVersionsRow.holds Try.pinned (OpenSpec.ofChange Rows.fnVersionsSpec) :=
  OpenClaim.holds_of_wide 3 Try.f3 rfl rfl rfl rfl rfl rfl rfl ⟨rfl, rfl, rfl, rfl, rfl⟩ rfl rfl rfl rfl rfl (by kernel_rfl) Try.func3 (by kernel_rfl)
    (of_decide_eq_true (by kernel_rfl)) (by unfold Func.isWrapper; first | (rw [if_pos (by decide +kernel)]; kernel_rfl) | (rw [if_neg (by decide +kernel)]; exact ⟨rfl, rfl⟩))
    (fun os started H enc _ => lifted os started H enc)

theorem proved : Rows.FnVersionsSaid :=
  over
end Go.Proofs.Ytejnghnmmeiioaa.fnVersions
