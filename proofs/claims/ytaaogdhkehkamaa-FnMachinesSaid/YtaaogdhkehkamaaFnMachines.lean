/- For every input of bytes: the dual of the dual of a machine is the machine, it is valid where the machine is and runs the negated numbers alike; the messages of a state ascend, and each has a move. -/
import Derived.Test.YtaaogdhkehkamaaDr
import Derived.Test.YtaaogdhkehkamaaDrBig
import Derived.Test.YtaaogdhkehkamaaDmc
import Derived.Test.YtaaogdhkehkamaaDu
import Derived.Test.YtaaogdhkehkamaaEqMc
import Derived.Test.YtaaogdhkehkamaaIs
import Derived.Test.YtaaogdhkehkamaaRn
import Derived.Test.YtaaogdhkehkamaaMo
import Derived.Test.YtaaogdhkehkamaaMf
import Derived.Test.YtaaogdhkehkamaaMl
import Derived.Test.YtaaogdhkehkamaaOpen
import Derived.WalkKit
import Derived.Deep.RegionHeld3
import Derived.ProofKit
import Derived.OpenShut
namespace Go.Proofs.Ytaaogdhkehkamaa.fnMachines
open Go.ChangeShapes Go.WideShapes Go.ChangeAt Go.RowKit Go.Lib
open Go.ChangeMaps (open_string shut_string)
set_option linter.unusedVariables false

theorem own : ownKnob Try.prog.godebug = none := by kernel_rfl
set_option linter.unusedSimpArgs false

set_option maxHeartbeats 40000000 in
set_option maxRecDepth 100000 in
theorem walk (a0 : Option Addr) (n0 c0 : Nat) (l0 : List Int) (w : World) (K0 : Nums .u8 w a0 n0 l0) (F0 : ∀ x ∈ l0, (Lit.int .u8 x).wf = true) (R0 : n0 ≤ c0 ∧ (c0 : Int) ≤ 9223372036854775807) :
    Calls Try.prog 3 #[.slice a0 n0 c0] w fun e w' => e = .returned (.bool true) ∧ Below w.heap.size w w' := by
  have HK0 := Lib.hid K0
  have HF := Lib.hid (bs_of_wf F0)
  have hfit := K0.fits
  clear K0 F0 R0
  by_cases hbig : 1048576 < n0
  · go_enter Try.func3, Try.ntmps3
    go_wp2_with fail
    refine (big_yes a0 n0 c0 hfit hbig _).mono ?_
    rintro e w1 ⟨rfl, rfl⟩
    go_wp2_with fail
    go_ret
    exact ⟨rfl, Below.refl _ _⟩
  · have HC := Lib.hid (code_of HK0.out HF.out)
    have HB := Lib.hid (Below.refl w.heap.size w)
    obtain ⟨i0, hi, hz0, hz1, hz2⟩ := info_parts infoIntS
    have HI := Lib.hid (And.intro hi (And.intro hz0 (And.intro hz1 hz2)))
    clear hi hz0 hz1 hz2
    go_enter Try.func3, Try.ntmps3
    go_wp2_with fail
    refine (big_no a0 n0 c0 hfit hbig _).mono ?_
    rintro e w1 ⟨rfl, rfl⟩
    clear hfit hbig HK0 HF
    go_wp2_with fail
    refine (drawRunMachine_any a0 n0 c0 _ HC.out).mono ?_
    rintro e w_1 ⟨v1, x, aw, nw, cw, l, rfl, hmac, hok, hnl, hm7, hl64, hz⟩
    have hsw_1 : w.heap.size ≤ w_1.heap.size := hz.size
    replace HC := Lib.hid (HC.out.same (hz))
    replace HB := Lib.hid (HB.out.trans ((hz).mono HB.out.size))
    obtain ⟨p1, k1, r1, q1, m1, d1, rfl⟩ := hmac.shape
    have HM := Lib.hid hmac
    have HN := Lib.hid hnl
    have HL64 := Lib.hid hl64
    have hlen := hnl.len
    have hpx : x.parts ≤ 100 := by unfold Mac.parts; have := hok.1; have := hok.2.1; omega
    have hpd : (dualM x).parts ≤ 100 := by rw [dualM_parts]; exact hpx
    clear hmac hok hnl hl64
    clear hz
    have HAL := Lib.hid (alloc_same w_1 (.cells #[.int .i64 x.st, .slice p1 k1 r1, .slice q1 m1 d1] 27))
    have HX1 := Lib.hid (heap_alloc_new w_1 (.cells #[.int .i64 x.st, .slice p1 k1 r1, .slice q1 m1 d1] 27 (0, 0)))
    change Hid ((World.alloc w_1 (.cells #[.int .i64 x.st, .slice p1 k1 r1, .slice q1 m1 d1] 27)).heap[w_1.heap.size]? = _) at HX1
    replace HC := Lib.hid (HC.out.same (HAL.out))
    replace HM := Lib.hid (HM.out.same (HAL.out))
    replace HN := Lib.hid (HN.out.same (HAL.out))
    replace HB := Lib.hid (HB.out.trans ((HAL.out).mono HB.out.size))
    have hsw_2 : w_1.heap.size < (World.alloc w_1 (.cells #[.int .i64 x.st, .slice p1 k1 r1, .slice q1 m1 d1] 27)).heap.size := by simp
    obtain ⟨ea1, eb1, ec1, -⟩ := three_cells HX1.out
    clear HAL
    go_wp2_with fail
    clear ea1 eb1 ec1
    generalize hgen : World.alloc w_1 (.cells #[.int .i64 x.st, .slice p1 k1 r1, .slice q1 m1 d1] 27) = w_2 at *
    clear hgen
    refine (dualOf_any HM.out (by omega)).mono ?_
    rintro e w_3 ⟨v2, rfl, hod, hz⟩
    have hsw_3 : w_2.heap.size ≤ w_3.heap.size := hz.size
    replace HC := Lib.hid (HC.out.same (hz))
    replace HM := Lib.hid (HM.out.same (hz))
    replace HN := Lib.hid (HN.out.same (hz))
    replace HX1 := Lib.hid (((hz).block _ (by omega)).trans HX1.out)
    replace HB := Lib.hid (HB.out.trans ((hz).mono HB.out.size))
    obtain ⟨p2, k2, r2, q2, m2, d2, rfl⟩ := hod.shape
    have HD := Lib.hid hod.mac
    clear hod
    clear hz
    have HAL := Lib.hid (alloc_same w_3 (.cells #[.int .i64 (dualM x).st, .slice p2 k2 r2, .slice q2 m2 d2] 27))
    have HX2 := Lib.hid (heap_alloc_new w_3 (.cells #[.int .i64 (dualM x).st, .slice p2 k2 r2, .slice q2 m2 d2] 27 (0, 0)))
    change Hid ((World.alloc w_3 (.cells #[.int .i64 (dualM x).st, .slice p2 k2 r2, .slice q2 m2 d2] 27)).heap[w_3.heap.size]? = _) at HX2
    replace HC := Lib.hid (HC.out.same (HAL.out))
    replace HM := Lib.hid (HM.out.same (HAL.out))
    replace HN := Lib.hid (HN.out.same (HAL.out))
    replace HD := Lib.hid (HD.out.same (HAL.out))
    replace HX1 := Lib.hid (((HAL.out).block _ (by omega)).trans HX1.out)
    replace HB := Lib.hid (HB.out.trans ((HAL.out).mono HB.out.size))
    have hsw_4 : w_3.heap.size < (World.alloc w_3 (.cells #[.int .i64 (dualM x).st, .slice p2 k2 r2, .slice q2 m2 d2] 27)).heap.size := by simp
    obtain ⟨ea1, eb1, ec1, -⟩ := three_cells HX1.out
    obtain ⟨ea2, eb2, ec2, -⟩ := three_cells HX2.out
    clear HAL
    go_wp2_with fail
    clear ea1 eb1 ec1 ea2 eb2 ec2
    generalize hgen : World.alloc w_3 (.cells #[.int .i64 (dualM x).st, .slice p2 k2 r2, .slice q2 m2 d2] 27) = w_4 at *
    clear hgen
    have HEQ := Lib.hid (fun (w' : World) (v' : Value) (h1 : MacW w' v' (dualM (dualM x))) (h2 : MacW w' (.agg #[.int .i64 x.st, .slice p1 k1 r1, .slice q1 m1 d1]) x) => (show Calls Try.prog 13 #[v', (.agg #[.int .i64 x.st, .slice p1 k1 r1, .slice q1 m1 d1])] w' (Told (.bool true) w') from by
      have h9 := equalMachines_any h1 h2
      rw [dual_dual, decide_eq_true rfl] at h9
      exact h9))
    have HID := Lib.hid (fun (w' : World) (h1 : MacW w' (.agg #[.int .i64 (dualM x).st, .slice p2 k2 r2, .slice q2 m2 d2]) (dualM x)) => (show Calls Try.prog 14 #[(.agg #[.int .i64 (dualM x).st, .slice p2 k2 r2, .slice q2 m2 d2])] w' (Told (.bool (isMac x)) w') from by
      have h9 := isMachine_any h1
      rw [isMac_dual] at h9
      exact h9))
    have CX1 := Lib.hid (three_cells HX1.out)
    have CX2 := Lib.hid (three_cells HX2.out)
    have HBd : Hid (Below w_4.heap.size w_4 w_4.drew) := Lib.hid (Below.refl _ _).drew
    refine wp_region_held_drew (S := fun w9 => w9.cell? ⟨w_1.heap.size, 0, none⟩ = some (.int .i64 x.st) ∧ w9.cell? ⟨w_1.heap.size, 1, none⟩ = some (.slice p1 k1 r1) ∧ w9.cell? ⟨w_1.heap.size, 2, none⟩ = some (.slice q1 m1 d1) ∧ w9.cell? ⟨w_3.heap.size, 0, none⟩ = some (.int .i64 (dualM x).st) ∧ w9.cell? ⟨w_3.heap.size, 1, none⟩ = some (.slice p2 k2 r2) ∧ w9.cell? ⟨w_3.heap.size, 2, none⟩ = some (.slice q2 m2 d2)) (by kernel_rfl) ⟨cell_stay CX1.out.1 HBd.out, cell_stay CX1.out.2.1 HBd.out, cell_stay CX1.out.2.2.1 HBd.out, cell_stay CX2.out.1 HBd.out, cell_stay CX2.out.2.1 HBd.out, cell_stay CX2.out.2.2.1 HBd.out⟩ (fun hHeld => ?_)
    refine wpAnyH_take (i := 0) (v := ?v1) (by simp only [List.getElem?_toArray, List.getElem?_cons_succ, List.getElem?_cons_zero]; rfl) (by kernel_rfl) (by kernel_rfl) (by kernel_rfl) (by exact fun _ _ _ h => h) (Or.inl ⟨by rfl, fun w9 hS9 => ?hy1⟩) hHeld ?rest1
    case hy1 =>
      dsimp only at hS9
      obtain ⟨z0, z1, z2, z3, z4, z5⟩ := hS9
      go_simp
      try with_reducible rfl
    try simp only [Act.put, List.setIfInBounds_toArray, List.set_cons_zero, List.set_cons_succ]
    refine wpAnyH_take (i := 2) (v := ?v2) (by simp only [List.getElem?_toArray, List.getElem?_cons_succ, List.getElem?_cons_zero]; rfl) (by kernel_rfl) (by kernel_rfl) (by kernel_rfl) (by exact fun _ _ _ h => h) (Or.inl ⟨by rfl, fun w9 hS9 => ?hy2⟩) hHeld ?rest2
    case hy2 =>
      dsimp only at hS9
      obtain ⟨z0, z1, z2, z3, z4, z5⟩ := hS9
      go_simp
      try with_reducible rfl
    try simp only [Act.put, List.setIfInBounds_toArray, List.set_cons_zero, List.set_cons_succ]
    refine wpAnyH_ready (rs := [1]) (by kernel_rfl) (by simp) (AllReadyH.cons (by simp only [List.getElem?_toArray, List.getElem?_cons_succ, List.getElem?_cons_zero]; rfl) (fun K hK => ?_) AllReadyH.nil)
    go_simp
    refine (dualOf_any (HD.out.same HBd.out) (by omega)).mono ?_
    rintro e w1 ⟨v3, rfl, ho1, hb1⟩
    have HB1 : Hid (Below w_4.heap.size w_4 w1) := Lib.hid (HBd.out.trans (hb1.mono HBd.out.size))
    have HDD := Lib.hid ho1.mac
    clear ho1
    clear hb1
    go_wp2_with fail
    refine hK.out _ _ ⟨cell_stay CX1.out.1 HB1.out, cell_stay CX1.out.2.1 HB1.out, cell_stay CX1.out.2.2.1 HB1.out, cell_stay CX2.out.1 HB1.out, cell_stay CX2.out.2.1 HB1.out, cell_stay CX2.out.2.2.1 HB1.out⟩ (fun hHeld => ?_)
    clear hK K
    try simp only [Act.put, List.setIfInBounds_toArray, List.set_cons_zero, List.set_cons_succ]
    refine wpAnyH_ready (rs := [3]) (by kernel_rfl) (by simp) (AllReadyH.cons (by simp only [List.getElem?_toArray, List.getElem?_cons_succ, List.getElem?_cons_zero]; rfl) (fun K hK => ?_) AllReadyH.nil)
    go_simp
    refine (HEQ.out _ _ HDD.out (HM.out.same HB1.out)).mono ?_
    rintro e w2 ⟨rfl, hb2⟩
    have HB2 : Hid (Below w_4.heap.size w_4 w2) := Lib.hid (HB1.out.trans (hb2.mono HB1.out.size))
    clear hb2
    go_wp2_with fail
    refine hK.out _ _ ⟨cell_stay CX1.out.1 HB2.out, cell_stay CX1.out.2.1 HB2.out, cell_stay CX1.out.2.2.1 HB2.out, cell_stay CX2.out.1 HB2.out, cell_stay CX2.out.2.1 HB2.out, cell_stay CX2.out.2.2.1 HB2.out⟩ (fun hHeld => ?_)
    clear hK K
    try simp only [Act.put, List.setIfInBounds_toArray, List.set_cons_zero, List.set_cons_succ]
    refine wpAnyH_take (i := 4) (v := ?v3) (by simp only [List.getElem?_toArray, List.getElem?_cons_succ, List.getElem?_cons_zero]; rfl) (by kernel_rfl) (by kernel_rfl) (by kernel_rfl) (by exact fun _ _ _ h => h) (Or.inl ⟨by rfl, fun w9 hS9 => ?hy3⟩) hHeld ?rest3
    case hy3 =>
      dsimp only at hS9
      obtain ⟨z0, z1, z2, z3, z4, z5⟩ := hS9
      go_simp
      try with_reducible rfl
    try simp only [Act.put, List.setIfInBounds_toArray, List.set_cons_zero, List.set_cons_succ]
    refine wpAnyH_take (i := 5) (v := ?v4) (by simp only [List.getElem?_toArray, List.getElem?_cons_succ, List.getElem?_cons_zero]; rfl) (by kernel_rfl) (by kernel_rfl) (by kernel_rfl) (by exact fun _ _ _ h => h) (Or.inl ⟨by rfl, fun w9 hS9 => ?hy4⟩) hHeld ?rest4
    case hy4 =>
      dsimp only at hS9
      obtain ⟨z0, z1, z2, z3, z4, z5⟩ := hS9
      go_simp
      try with_reducible rfl
    try simp only [Act.put, List.setIfInBounds_toArray, List.set_cons_zero, List.set_cons_succ]
    refine wpAnyH_take (i := 6) (v := ?v5) (by simp only [List.getElem?_toArray, List.getElem?_cons_succ, List.getElem?_cons_zero]; rfl) (by kernel_rfl) (by kernel_rfl) (by kernel_rfl) (by exact fun _ _ _ h => h) (Or.inl ⟨by rfl, fun w9 hS9 => ?hy5⟩) hHeld ?rest5
    case hy5 =>
      dsimp only at hS9
      obtain ⟨z0, z1, z2, z3, z4, z5⟩ := hS9
      go_simp
      try with_reducible rfl
    try simp only [Act.put, List.setIfInBounds_toArray, List.set_cons_zero, List.set_cons_succ]
    refine wpAnyH_take (i := 8) (v := ?v6) (by simp only [List.getElem?_toArray, List.getElem?_cons_succ, List.getElem?_cons_zero]; rfl) (by kernel_rfl) (by kernel_rfl) (by kernel_rfl) (by exact fun _ _ _ h => h) (Or.inl ⟨by rfl, fun w9 hS9 => ?hy6⟩) hHeld ?rest6
    case hy6 =>
      dsimp only at hS9
      obtain ⟨z0, z1, z2, z3, z4, z5⟩ := hS9
      go_simp
      try with_reducible rfl
    try simp only [Act.put, List.setIfInBounds_toArray, List.set_cons_zero, List.set_cons_succ]
    refine wpAnyH_ready (rs := [7]) (by kernel_rfl) (by simp) (AllReadyH.cons (by simp only [List.getElem?_toArray, List.getElem?_cons_succ, List.getElem?_cons_zero]; rfl) (fun K hK => ?_) AllReadyH.nil)
    go_simp
    refine (HID.out _ (HD.out.same HB2.out)).mono ?_
    rintro e w3 ⟨rfl, hb3⟩
    have HB3 : Hid (Below w_4.heap.size w_4 w3) := Lib.hid (HB2.out.trans (hb3.mono HB2.out.size))
    clear hb3
    go_wp2_with fail
    refine hK.out _ _ ⟨cell_stay CX1.out.1 HB3.out, cell_stay CX1.out.2.1 HB3.out, cell_stay CX1.out.2.2.1 HB3.out, cell_stay CX2.out.1 HB3.out, cell_stay CX2.out.2.1 HB3.out, cell_stay CX2.out.2.2.1 HB3.out⟩ (fun hHeld => ?_)
    clear hK K
    try simp only [Act.put, List.setIfInBounds_toArray, List.set_cons_zero, List.set_cons_succ]
    refine wpAnyH_ready (rs := [9]) (by kernel_rfl) (by simp) (AllReadyH.cons (by simp only [List.getElem?_toArray, List.getElem?_cons_succ, List.getElem?_cons_zero]; rfl) (fun K hK => ?_) AllReadyH.nil)
    go_simp
    refine (isMachine_any (HM.out.same HB3.out)).mono ?_
    rintro e w4 ⟨rfl, hb4⟩
    have HB4 : Hid (Below w_4.heap.size w_4 w4) := Lib.hid (HB3.out.trans (hb4.mono HB3.out.size))
    clear hb4
    go_wp2_with fail
    refine hK.out _ _ ⟨cell_stay CX1.out.1 HB4.out, cell_stay CX1.out.2.1 HB4.out, cell_stay CX1.out.2.2.1 HB4.out, cell_stay CX2.out.1 HB4.out, cell_stay CX2.out.2.1 HB4.out, cell_stay CX2.out.2.2.1 HB4.out⟩ (fun hHeld => ?_)
    clear hK K
    try simp only [Act.put, List.setIfInBounds_toArray, List.set_cons_zero, List.set_cons_succ]
    refine wpAnyH_take (i := 10) (v := ?v7) (by simp only [List.getElem?_toArray, List.getElem?_cons_succ, List.getElem?_cons_zero]; rfl) (by kernel_rfl) (by kernel_rfl) (by kernel_rfl) (by exact fun _ _ _ h => h) (Or.inl ⟨by rfl, fun w9 hS9 => ?hy7⟩) hHeld ?rest7
    case hy7 =>
      dsimp only at hS9
      obtain ⟨z0, z1, z2, z3, z4, z5⟩ := hS9
      go_simp
      try with_reducible rfl
    try simp only [Act.put, List.setIfInBounds_toArray, List.set_cons_zero, List.set_cons_succ]
    refine wpAnyH_take (i := 11) (v := ?v8) (by simp only [List.getElem?_toArray, List.getElem?_cons_succ, List.getElem?_cons_zero]; rfl) (by kernel_rfl) (by kernel_rfl) (by kernel_rfl) (by exact fun _ _ _ h => h) (Or.inl ⟨by rfl, fun w9 hS9 => ?hy8⟩) hHeld ?rest8
    case hy8 =>
      dsimp only at hS9
      obtain ⟨z0, z1, z2, z3, z4, z5⟩ := hS9
      go_simp
      try with_reducible rfl
    try simp only [Act.put, List.setIfInBounds_toArray, List.set_cons_zero, List.set_cons_succ]
    refine wpAnyH_done (by kernel_rfl) ?_ _
    obtain ⟨w_5, hwv⟩ : ∃ u, u = w4 := ⟨w4, rfl⟩
    subst hwv
    have hsw_5 : w_4.heap.size ≤ w_5.heap.size := HB4.out.size
    replace HC := Lib.hid (HC.out.same (HB4.out))
    replace HM := Lib.hid (HM.out.same (HB4.out))
    replace HN := Lib.hid (HN.out.same (HB4.out))
    replace HD := Lib.hid (HD.out.same (HB4.out))
    replace HX1 := Lib.hid (((HB4.out).block _ (by omega)).trans HX1.out)
    replace HX2 := Lib.hid (((HB4.out).block _ (by omega)).trans HX2.out)
    replace HB := Lib.hid (HB.out.trans ((HB4.out).mono HB.out.size))
    clear CX1 CX2
    clear HEQ HID
    obtain ⟨ea1, eb1, ec1, -⟩ := three_cells HX1.out
    obtain ⟨ea2, eb2, ec2, -⟩ := three_cells HX2.out
    have HOW : Hid (Own .i64 3 (World.alloc w_5 (.cells #[] 3)) w_5.heap.size (some ⟨w_5.heap.size, 0, none⟩) 0 0 []) := Lib.hid (Own.empty (Nat.le_refl _))
    have HBW : Hid (Below w_5.heap.size w_5 (World.alloc w_5 (.cells #[] 3))) := Lib.hid (alloc_same _ _)
    go_wp2_with fail
    clear ea1 eb1 ec1 ea2 eb2 ec2
    go_loopw [6, 7] (fun t u wr => ∃ (j : Nat) (qn : Option Addr) (cn : Nat), u = .int .i64 j ∧ t = .slice qn j cn ∧ j ≤ nw ∧ Own .i64 3 wr w_5.heap.size qn j cn (negW (l.take j)) ∧ Below w_5.heap.size w_5 wr) (fun _ u _ => nw - (intOf u).toNat)
    case atStart => exact ⟨0, _, 0, rfl, rfl, Nat.zero_le _, by simpa [negW] using HOW.out, HBW.out⟩
    case round =>
      clear HOW HBW
      obtain ⟨j, qn, cn, rfl, rfl, hj, ho, hb⟩ := hrel
      have HO := Lib.hid ho
      have HR := Lib.hid hb
      clear ho hb
      by_cases hlt : j < nw
      · obtain ⟨ad, z, rfl, hz, hcz⟩ := (HN.out.same HR.out).at_ hlt
        have HS := Lib.hid (negW_step hz)
        have hz64 := HL64.out z (List.mem_of_getElem? hz)
        unfold I64 at hz64
        have ew : RowKit.wrap64 (-RowKit.wrap64 (z + 1)) = -z - 1 := by
          unfold RowKit.wrap64
          omega
        have hsr := HR.out.size
        clear hz
        go_wp2_with (at_builtin; refine wpl_app _ rfl (.tmp 42) (.tmp 49) 28 rfl .i64 3 i0 (.int .i64 0) 8 Try.underlying28 HI.out.1 HI.out.2.1 HI.out.2.2.1 HI.out.2.2.2 rfl rfl (HO.out.alloc _) rfl (nums_new wr .i64 (-z - 1) 3) (by omega) ?ca ?cb ?_)
        case ca => omega
        case cb => simp; omega
        intro a7 c7 w7 ho7 hb7
        have HO7 := Lib.hid ho7
        have HR7 : Hid (Below w_5.heap.size w_5 w7) := Lib.hid ((HR.out.alloc hsr _).trans hb7)
        clear ho7 hb7
        go_wp2_with fail
        go_roundw
        case rel => exact ⟨j + 1, a7, c7, by go_num, by simp, by omega, by rw [HS.out]; exact HO7.out, HR7.out⟩
        case measure => simp [intOf]; omega
      · obtain rfl : nw = j := by omega
        have HW : Hid (Nums .i64 wr qn nw (negW l)) := Lib.hid (by
          have h1 := HO.out.nums
          rw [List.take_of_length_le (by omega)] at h1
          exact h1)
        clear HO
        have hsl : w_5.heap.size ≤ wr.heap.size := HR.out.size
        replace HC := Lib.hid (HC.out.same (HR.out))
        replace HM := Lib.hid (HM.out.same (HR.out))
        replace HN := Lib.hid (HN.out.same (HR.out))
        replace HD := Lib.hid (HD.out.same (HR.out))
        replace HX1 := Lib.hid (((HR.out).block _ (by omega)).trans HX1.out)
        replace HX2 := Lib.hid (((HR.out).block _ (by omega)).trans HX2.out)
        replace HB := Lib.hid (HB.out.trans ((HR.out).mono HB.out.size))
        clear HR
        have HS9 := Lib.hid (runM_neg x l)
        have HWF : Hid (∀ z ∈ l, (Lit.int .i64 z).wf = true) := Lib.hid (fun z hz => WalkArith.wf_i64 (HL64.out z hz))
        have HWG : Hid (∀ z ∈ negW l, (Lit.int .i64 z).wf = true) := Lib.hid (fun z hz => by
          obtain ⟨u, hu, rfl⟩ := List.mem_map.1 hz
          exact WalkArith.wf_i64 (neg_i64 (HL64.out u hu)))
        have HST := Lib.hid (runM_state (x := x) (w := l))
        have hc1 := fun w' (h : MacW w' (.agg #[.int .i64 x.st, .slice p1 k1 r1, .slice q1 m1 d1]) x) (g : Nums .i64 w' aw nw l) => runMachine_any (c0 := cw) h g HWF.out
        have hc2 := fun w' (h : MacW w' (.agg #[.int .i64 (dualM x).st, .slice p2 k2 r2, .slice q2 m2 d2]) (dualM x)) (g : Nums .i64 w' qn nw (negW l)) => runMachine_any (c0 := cn) h g HWG.out
        rw [HS9.out] at hc2
        obtain ⟨sv, hsv⟩ : ∃ sv, sv = runM x l := ⟨_, rfl⟩
        rw [← hsv] at hc1 hc2 HST
        have HC1 := Lib.hid hc1
        have HC2 := Lib.hid hc2
        clear hc1 hc2 hsv HS9 HWF HWG
        obtain ⟨ea1, eb1, ec1, -⟩ := three_cells HX1.out
        obtain ⟨ea2, eb2, ec2, -⟩ := three_cells HX2.out
        go_wp2_with fail
        clear ea1 eb1 ec1 ea2 eb2 ec2
        refine (HC1.out _ HM.out HN.out).mono ?_
        rintro e w_6 ⟨rfl, hz⟩
        have hsw_6 : wr.heap.size ≤ w_6.heap.size := hz.size
        replace HC := Lib.hid (HC.out.same (hz))
        replace HM := Lib.hid (HM.out.same (hz))
        replace HN := Lib.hid (HN.out.same (hz))
        replace HD := Lib.hid (HD.out.same (hz))
        replace HW := Lib.hid (HW.out.same (hz))
        replace HX1 := Lib.hid (((hz).block _ (by omega)).trans HX1.out)
        replace HX2 := Lib.hid (((hz).block _ (by omega)).trans HX2.out)
        replace HB := Lib.hid (HB.out.trans ((hz).mono HB.out.size))
        clear hz
        obtain ⟨ea1, eb1, ec1, -⟩ := three_cells HX1.out
        obtain ⟨ea2, eb2, ec2, -⟩ := three_cells HX2.out
        go_wp2_with fail
        clear ea1 eb1 ec1 ea2 eb2 ec2
        refine (HC2.out _ HD.out HW.out).mono ?_
        rintro e w_7 ⟨rfl, hz⟩
        have hsw_7 : w_6.heap.size ≤ w_7.heap.size := hz.size
        replace HC := Lib.hid (HC.out.same (hz))
        replace HM := Lib.hid (HM.out.same (hz))
        replace HN := Lib.hid (HN.out.same (hz))
        replace HD := Lib.hid (HD.out.same (hz))
        replace HW := Lib.hid (HW.out.same (hz))
        replace HX1 := Lib.hid (((hz).block _ (by omega)).trans HX1.out)
        replace HX2 := Lib.hid (((hz).block _ (by omega)).trans HX2.out)
        replace HB := Lib.hid (HB.out.trans ((hz).mono HB.out.size))
        clear hz
        by_cases hsn : 0 ≤ sv
        · obtain ⟨hma, hlts⟩ := HST.out hsn
          have g1 : decide (sv ≥ 0) = true := by simpa using hsn
          have g2 : decide (sv ≥ x.st) = false := by simp; omega
          have hcm := fun w' (h : MacW w' (.agg #[.int .i64 x.st, .slice p1 k1 r1, .slice q1 m1 d1]) x) => isMachine_any h
          rw [hma] at hcm
          have HCM := Lib.hid hcm
          clear hcm hma
          obtain ⟨ea1, eb1, ec1, -⟩ := three_cells HX1.out
          obtain ⟨ea2, eb2, ec2, -⟩ := three_cells HX2.out
          go_wp2_with fail
          clear ea1 eb1 ec1 ea2 eb2 ec2
          refine (HCM.out _ HM.out).mono ?_
          rintro e w_8 ⟨rfl, hz⟩
          have hsw_8 : w_7.heap.size ≤ w_8.heap.size := hz.size
          replace HC := Lib.hid (HC.out.same (hz))
          replace HM := Lib.hid (HM.out.same (hz))
          replace HN := Lib.hid (HN.out.same (hz))
          replace HD := Lib.hid (HD.out.same (hz))
          replace HW := Lib.hid (HW.out.same (hz))
          replace HX1 := Lib.hid (((hz).block _ (by omega)).trans HX1.out)
          replace HX2 := Lib.hid (((hz).block _ (by omega)).trans HX2.out)
          replace HB := Lib.hid (HB.out.trans ((hz).mono HB.out.size))
          clear hz
          obtain ⟨ea1, eb1, ec1, -⟩ := three_cells HX1.out
          obtain ⟨ea2, eb2, ec2, -⟩ := three_cells HX2.out
          go_wp2_with fail
          clear ea1 eb1 ec1 ea2 eb2 ec2
          refine (drawMovesFrom_any a0 n0 c0 _ HC.out).mono ?_
          rintro e w_9 ⟨v4, y, sy, ty, rfl, hmac, hok, hz⟩
          have hsw_9 : w_8.heap.size ≤ w_9.heap.size := hz.size
          replace HC := Lib.hid (HC.out.same (hz))
          replace HM := Lib.hid (HM.out.same (hz))
          replace HN := Lib.hid (HN.out.same (hz))
          replace HD := Lib.hid (HD.out.same (hz))
          replace HW := Lib.hid (HW.out.same (hz))
          replace HX1 := Lib.hid (((hz).block _ (by omega)).trans HX1.out)
          replace HX2 := Lib.hid (((hz).block _ (by omega)).trans HX2.out)
          replace HB := Lib.hid (HB.out.trans ((hz).mono HB.out.size))
          obtain ⟨p4, k4, r4, q4, m4, d4, rfl⟩ := hmac.shape
          have HY := Lib.hid hmac
          have hpy : y.parts ≤ 100 := by unfold Mac.parts; have := hok.1; have := hok.2.1; omega
          clear hmac hok
          clear hz
          have HAL := Lib.hid (alloc_same w_9 (.cells #[.int .i64 y.st, .slice p4 k4 r4, .slice q4 m4 d4] 27))
          have HX4 := Lib.hid (heap_alloc_new w_9 (.cells #[.int .i64 y.st, .slice p4 k4 r4, .slice q4 m4 d4] 27 (0, 0)))
          change Hid ((World.alloc w_9 (.cells #[.int .i64 y.st, .slice p4 k4 r4, .slice q4 m4 d4] 27)).heap[w_9.heap.size]? = _) at HX4
          replace HC := Lib.hid (HC.out.same (HAL.out))
          replace HM := Lib.hid (HM.out.same (HAL.out))
          replace HN := Lib.hid (HN.out.same (HAL.out))
          replace HD := Lib.hid (HD.out.same (HAL.out))
          replace HW := Lib.hid (HW.out.same (HAL.out))
          replace HY := Lib.hid (HY.out.same (HAL.out))
          replace HX1 := Lib.hid (((HAL.out).block _ (by omega)).trans HX1.out)
          replace HX2 := Lib.hid (((HAL.out).block _ (by omega)).trans HX2.out)
          replace HB := Lib.hid (HB.out.trans ((HAL.out).mono HB.out.size))
          have hsw_10 : w_9.heap.size < (World.alloc w_9 (.cells #[.int .i64 y.st, .slice p4 k4 r4, .slice q4 m4 d4] 27)).heap.size := by simp
          obtain ⟨ea1, eb1, ec1, -⟩ := three_cells HX1.out
          obtain ⟨ea2, eb2, ec2, -⟩ := three_cells HX2.out
          obtain ⟨ea4, eb4, ec4, -⟩ := three_cells HX4.out
          clear HAL
          go_wp2_with fail
          clear ea1 eb1 ec1 ea2 eb2 ec2 ea4 eb4 ec4
          generalize hgen : World.alloc w_9 (.cells #[.int .i64 y.st, .slice p4 k4 r4, .slice q4 m4 d4] 27) = w_10 at *
          clear hgen
          refine (movesFrom_any sy ty HY.out (by omega)).mono ?_
          rintro e w_11 ⟨ql, ml, cl, rfl, hol, hz⟩
          have hsw_11 : w_10.heap.size ≤ w_11.heap.size := hz.size
          replace HC := Lib.hid (HC.out.same (hz))
          replace HM := Lib.hid (HM.out.same (hz))
          replace HN := Lib.hid (HN.out.same (hz))
          replace HD := Lib.hid (HD.out.same (hz))
          replace HW := Lib.hid (HW.out.same (hz))
          replace HY := Lib.hid (HY.out.same (hz))
          replace HX1 := Lib.hid (((hz).block _ (by omega)).trans HX1.out)
          replace HX2 := Lib.hid (((hz).block _ (by omega)).trans HX2.out)
          replace HX4 := Lib.hid (((hz).block _ (by omega)).trans HX4.out)
          replace HB := Lib.hid (HB.out.trans ((hz).mono HB.out.size))
          have HL9 := Lib.hid hol.nums
          have hll := hol.len
          have hml8 : ml ≤ 100 := by have := movesFrom_len y sy ty; unfold Mac.parts at hpy; omega
          clear hol
          clear hz
          obtain ⟨ea1, eb1, ec1, -⟩ := three_cells HX1.out
          obtain ⟨ea2, eb2, ec2, -⟩ := three_cells HX2.out
          obtain ⟨ea4, eb4, ec4, -⟩ := three_cells HX4.out
          go_wp2_with fail
          clear ea1 eb1 ec1 ea2 eb2 ec2 ea4 eb4 ec4
          go_loopw [13] (fun t wr => ∃ (j : Nat), t = .int .i64 j ∧ j ≤ ml ∧ Below w_11.heap.size w_11 wr) (fun t _ => ml - (intOf t).toNat)
          case atStart => exact ⟨0, rfl, Nat.zero_le _, Below.refl _ _⟩
          case round =>
            obtain ⟨j, rfl, hj, hb⟩ := hrel
            have HR := Lib.hid hb
            have hsr := hb.size
            have CY := Lib.hid (three_cells ((hb.block _ (by omega)).trans HX4.out))
            have HYr := Lib.hid (HY.out.same hb)
            have HLr := Lib.hid (HL9.out.same hb)
            clear hb
            by_cases hlt : j < ml
            · obtain ⟨ad, kz, e5, hkz, hcz⟩ := HLr.out.at_ hlt
              subst e5
              have hidF : decide (moveOf y sy ty kz < 0) = false := by
                have := movesFrom_hit hkz
                simp; omega
              have HKZ := Lib.hid hkz
              have CZ := Lib.hid hcz
              clear hkz hcz
              by_cases hj0 : j = 0
              · subst hj0
                have CZ0 : Hid (wr.cell? ad = some (.int .i64 kz)) := Lib.hid (by
                  have h := CZ.out
                  have e9 : ad.add 0 = ad := by cases ad; rfl
                  rwa [e9] at h)
                go_wp2_with fail
                have HBd : Hid (Below wr.heap.size wr wr.drew) := Lib.hid (Below.refl _ _).drew
                refine wp_region_held_drew (S := fun w9 => w9.cell? ⟨w_9.heap.size, 0, none⟩ = some (.int .i64 y.st) ∧ w9.cell? ⟨w_9.heap.size, 1, none⟩ = some (.slice p4 k4 r4) ∧ w9.cell? ⟨w_9.heap.size, 2, none⟩ = some (.slice q4 m4 d4) ∧ w9.cell? ad = some (.int .i64 kz)) (by kernel_rfl) ⟨cell_stay CY.out.1 HBd.out, cell_stay CY.out.2.1 HBd.out, cell_stay CY.out.2.2.1 HBd.out, cell_stay CZ0.out HBd.out⟩ (fun hHeld => ?_)
                refine wpAnyH_take (i := 0) (v := ?v9) (by simp only [List.getElem?_toArray, List.getElem?_cons_succ, List.getElem?_cons_zero]; rfl) (by kernel_rfl) (by kernel_rfl) (by kernel_rfl) (by exact fun _ _ _ h => h) (Or.inl ⟨by rfl, fun w9 hS9 => ?hy9⟩) hHeld ?rest9
                case hy9 =>
                  dsimp only at hS9
                  obtain ⟨z0, z1, z2, z3⟩ := hS9
                  go_simp
                  try with_reducible rfl
                try simp only [Act.put, List.setIfInBounds_toArray, List.set_cons_zero, List.set_cons_succ]
                refine wpAnyH_take (i := 1) (v := ?v10) (by simp only [List.getElem?_toArray, List.getElem?_cons_succ, List.getElem?_cons_zero]; rfl) (by kernel_rfl) (by kernel_rfl) (by kernel_rfl) (by exact fun _ _ _ h => h) (Or.inl ⟨by rfl, fun w9 hS9 => ?hy10⟩) hHeld ?rest10
                case hy10 =>
                  dsimp only at hS9
                  obtain ⟨z0, z1, z2, z3⟩ := hS9
                  go_simp
                  try with_reducible rfl
                try simp only [Act.put, List.setIfInBounds_toArray, List.set_cons_zero, List.set_cons_succ]
                refine wpAnyH_take (i := 2) (v := ?v11) (by simp only [List.getElem?_toArray, List.getElem?_cons_succ, List.getElem?_cons_zero]; rfl) (by kernel_rfl) (by kernel_rfl) (by kernel_rfl) (by exact fun _ _ _ h => h) (Or.inl ⟨by rfl, fun w9 hS9 => ?hy11⟩) hHeld ?rest11
                case hy11 =>
                  dsimp only at hS9
                  obtain ⟨z0, z1, z2, z3⟩ := hS9
                  go_simp
                  try with_reducible rfl
                try simp only [Act.put, List.setIfInBounds_toArray, List.set_cons_zero, List.set_cons_succ]
                refine wpAnyH_take (i := 3) (v := ?v12) (by simp only [List.getElem?_toArray, List.getElem?_cons_succ, List.getElem?_cons_zero]; rfl) (by kernel_rfl) (by kernel_rfl) (by kernel_rfl) (by exact fun _ _ _ h => h) (Or.inl ⟨by rfl, fun w9 hS9 => ?hy12⟩) hHeld ?rest12
                case hy12 =>
                  dsimp only at hS9
                  obtain ⟨z0, z1, z2, z3⟩ := hS9
                  go_simp
                  try with_reducible rfl
                try simp only [Act.put, List.setIfInBounds_toArray, List.set_cons_zero, List.set_cons_succ]
                refine wpAnyH_take (i := 4) (v := ?v13) (by simp only [List.getElem?_toArray, List.getElem?_cons_succ, List.getElem?_cons_zero]; rfl) (by kernel_rfl) (by kernel_rfl) (by kernel_rfl) (by exact fun _ _ _ h => h) (Or.inl ⟨by rfl, fun w9 hS9 => ?hy13⟩) hHeld ?rest13
                case hy13 =>
                  dsimp only at hS9
                  obtain ⟨z0, z1, z2, z3⟩ := hS9
                  go_simp
                  try with_reducible rfl
                try simp only [Act.put, List.setIfInBounds_toArray, List.set_cons_zero, List.set_cons_succ]
                refine wpAnyH_take (i := 5) (v := ?v14) (by simp only [List.getElem?_toArray, List.getElem?_cons_succ, List.getElem?_cons_zero]; rfl) (by kernel_rfl) (by kernel_rfl) (by kernel_rfl) (by exact fun _ _ _ h => h) (Or.inl ⟨by rfl, fun w9 hS9 => ?hy14⟩) hHeld ?rest14
                case hy14 =>
                  dsimp only at hS9
                  obtain ⟨z0, z1, z2, z3⟩ := hS9
                  go_simp
                  try with_reducible rfl
                try simp only [Act.put, List.setIfInBounds_toArray, List.set_cons_zero, List.set_cons_succ]
                refine wpAnyH_take (i := 6) (v := ?v15) (by simp only [List.getElem?_toArray, List.getElem?_cons_succ, List.getElem?_cons_zero]; rfl) (by kernel_rfl) (by kernel_rfl) (by kernel_rfl) (by exact fun _ _ _ h => h) (Or.inl ⟨by rfl, fun w9 hS9 => ?hy15⟩) hHeld ?rest15
                case hy15 =>
                  dsimp only at hS9
                  obtain ⟨z0, z1, z2, z3⟩ := hS9
                  go_simp
                  try with_reducible rfl
                try simp only [Act.put, List.setIfInBounds_toArray, List.set_cons_zero, List.set_cons_succ]
                refine wpAnyH_ready (rs := [7]) (by kernel_rfl) (by simp) (AllReadyH.cons (by simp only [List.getElem?_toArray, List.getElem?_cons_succ, List.getElem?_cons_zero]; rfl) (fun K hK => ?_) AllReadyH.nil)
                go_simp
                refine (moveOf_any sy ty kz (HYr.out.same HBd.out)).mono ?_
                rintro e w1 ⟨rfl, hb1⟩
                have HB1 : Hid (Below wr.heap.size wr w1) := Lib.hid (HBd.out.trans (hb1.mono HBd.out.size))
                clear hb1
                go_wp2_with fail
                refine hK.out _ _ ⟨cell_stay CY.out.1 HB1.out, cell_stay CY.out.2.1 HB1.out, cell_stay CY.out.2.2.1 HB1.out, cell_stay CZ0.out HB1.out⟩ (fun hHeld => ?_)
                clear hK K
                try simp only [Act.put, List.setIfInBounds_toArray, List.set_cons_zero, List.set_cons_succ]
                refine wpAnyH_take (i := 8) (v := .bool false) (by simp only [List.getElem?_toArray, List.getElem?_cons_succ, List.getElem?_cons_zero]; rfl) (by kernel_rfl) (by kernel_rfl) (by kernel_rfl) (by exact fun _ _ _ h => h) (Or.inl ⟨by rfl, fun w9 hS9 => ?hy16⟩) hHeld ?rest16
                case hy16 =>
                  dsimp only at hS9
                  obtain ⟨z0, z1, z2, z3⟩ := hS9
                  go_simp
                  all_goals first | with_reducible rfl | (simp only [hidF]) | (simp [hidF]) | (simp; omega)
                try simp only [Act.put, List.setIfInBounds_toArray, List.set_cons_zero, List.set_cons_succ]
                refine wpAnyH_take (i := 9) (v := ?v17) (by simp only [List.getElem?_toArray, List.getElem?_cons_succ, List.getElem?_cons_zero]; rfl) (by kernel_rfl) (by kernel_rfl) (by kernel_rfl) (by exact fun _ _ _ h => h) (Or.inl ⟨by rfl, fun w9 hS9 => ?hy17⟩) hHeld ?rest17
                case hy17 =>
                  dsimp only at hS9
                  obtain ⟨z0, z1, z2, z3⟩ := hS9
                  go_simp
                  try with_reducible rfl
                try simp only [Act.put, List.setIfInBounds_toArray, List.set_cons_zero, List.set_cons_succ]
                refine wpAnyH_take (i := 10) (v := ?v18) (by simp only [List.getElem?_toArray, List.getElem?_cons_succ, List.getElem?_cons_zero]; rfl) (by kernel_rfl) (by kernel_rfl) (by kernel_rfl) (by exact fun _ _ _ h => h) (Or.inl ⟨by rfl, fun w9 hS9 => ?hy18⟩) hHeld ?rest18
                case hy18 =>
                  dsimp only at hS9
                  obtain ⟨z0, z1, z2, z3⟩ := hS9
                  go_simp
                  try with_reducible rfl
                try simp only [Act.put, List.setIfInBounds_toArray, List.set_cons_zero, List.set_cons_succ]
                refine wpAnyH_take (i := 11) (v := ?v19) (by simp only [List.getElem?_toArray, List.getElem?_cons_succ, List.getElem?_cons_zero]; rfl) (by kernel_rfl) (by kernel_rfl) (by kernel_rfl) (by exact fun _ _ _ h => h) (Or.inl ⟨by rfl, fun w9 hS9 => ?hy19⟩) hHeld ?rest19
                case hy19 =>
                  dsimp only at hS9
                  obtain ⟨z0, z1, z2, z3⟩ := hS9
                  go_simp
                  try with_reducible rfl
                try simp only [Act.put, List.setIfInBounds_toArray, List.set_cons_zero, List.set_cons_succ]
                refine wpAnyH_take (i := 12) (v := ?v20) (by simp only [List.getElem?_toArray, List.getElem?_cons_succ, List.getElem?_cons_zero]; rfl) (by kernel_rfl) (by kernel_rfl) (by kernel_rfl) (by exact fun _ _ _ h => h) (Or.inl ⟨by rfl, fun w9 hS9 => ?hy20⟩) hHeld ?rest20
                case hy20 =>
                  dsimp only at hS9
                  obtain ⟨z0, z1, z2, z3⟩ := hS9
                  go_simp
                  try with_reducible rfl
                try simp only [Act.put, List.setIfInBounds_toArray, List.set_cons_zero, List.set_cons_succ]
                refine wpAnyH_take (i := 13) (v := undef) (by simp only [List.getElem?_toArray, List.getElem?_cons_succ, List.getElem?_cons_zero]; rfl) (by kernel_rfl) (by kernel_rfl) (by kernel_rfl) (by exact fun _ _ _ h => h) (Or.inr ⟨by rfl, rfl⟩) hHeld ?_
                try simp only [Act.put, List.setIfInBounds_toArray, List.set_cons_zero, List.set_cons_succ]
                refine wpAnyH_take (i := 14) (v := undef) (by simp only [List.getElem?_toArray, List.getElem?_cons_succ, List.getElem?_cons_zero]; rfl) (by kernel_rfl) (by kernel_rfl) (by kernel_rfl) (by exact fun _ _ _ h => h) (Or.inr ⟨by rfl, rfl⟩) hHeld ?_
                try simp only [Act.put, List.setIfInBounds_toArray, List.set_cons_zero, List.set_cons_succ]
                refine wpAnyH_take (i := 15) (v := undef) (by simp only [List.getElem?_toArray, List.getElem?_cons_succ, List.getElem?_cons_zero]; rfl) (by kernel_rfl) (by kernel_rfl) (by kernel_rfl) (by exact fun _ _ _ h => h) (Or.inr ⟨by rfl, rfl⟩) hHeld ?_
                try simp only [Act.put, List.setIfInBounds_toArray, List.set_cons_zero, List.set_cons_succ]
                refine wpAnyH_take (i := 16) (v := undef) (by simp only [List.getElem?_toArray, List.getElem?_cons_succ, List.getElem?_cons_zero]; rfl) (by kernel_rfl) (by kernel_rfl) (by kernel_rfl) (by exact fun _ _ _ h => h) (Or.inr ⟨by rfl, rfl⟩) hHeld ?_
                try simp only [Act.put, List.setIfInBounds_toArray, List.set_cons_zero, List.set_cons_succ]
                refine wpAnyH_take (i := 17) (v := undef) (by simp only [List.getElem?_toArray, List.getElem?_cons_succ, List.getElem?_cons_zero]; rfl) (by kernel_rfl) (by kernel_rfl) (by kernel_rfl) (by exact fun _ _ _ h => h) (Or.inr ⟨by rfl, rfl⟩) hHeld ?_
                try simp only [Act.put, List.setIfInBounds_toArray, List.set_cons_zero, List.set_cons_succ]
                refine wpAnyH_take (i := 18) (v := undef) (by simp only [List.getElem?_toArray, List.getElem?_cons_succ, List.getElem?_cons_zero]; rfl) (by kernel_rfl) (by kernel_rfl) (by kernel_rfl) (by exact fun _ _ _ h => h) (Or.inr ⟨by rfl, rfl⟩) hHeld ?_
                try simp only [Act.put, List.setIfInBounds_toArray, List.set_cons_zero, List.set_cons_succ]
                refine wpAnyH_take (i := 19) (v := undef) (by simp only [List.getElem?_toArray, List.getElem?_cons_succ, List.getElem?_cons_zero]; rfl) (by kernel_rfl) (by kernel_rfl) (by kernel_rfl) (by exact fun _ _ _ h => h) (Or.inr ⟨by rfl, rfl⟩) hHeld ?_
                try simp only [Act.put, List.setIfInBounds_toArray, List.set_cons_zero, List.set_cons_succ]
                refine wpAnyH_take (i := 20) (v := undef) (by simp only [List.getElem?_toArray, List.getElem?_cons_succ, List.getElem?_cons_zero]; rfl) (by kernel_rfl) (by kernel_rfl) (by kernel_rfl) (by exact fun _ _ _ h => h) (Or.inr ⟨by rfl, rfl⟩) hHeld ?_
                try simp only [Act.put, List.setIfInBounds_toArray, List.set_cons_zero, List.set_cons_succ]
                refine wpAnyH_take (i := 21) (v := undef) (by simp only [List.getElem?_toArray, List.getElem?_cons_succ, List.getElem?_cons_zero]; rfl) (by kernel_rfl) (by kernel_rfl) (by kernel_rfl) (by exact fun _ _ _ h => h) (Or.inr ⟨by rfl, rfl⟩) hHeld ?_
                try simp only [Act.put, List.setIfInBounds_toArray, List.set_cons_zero, List.set_cons_succ]
                refine wpAnyH_take (i := 22) (v := undef) (by simp only [List.getElem?_toArray, List.getElem?_cons_succ, List.getElem?_cons_zero]; rfl) (by kernel_rfl) (by kernel_rfl) (by kernel_rfl) (by exact fun _ _ _ h => h) (Or.inr ⟨by rfl, rfl⟩) hHeld ?_
                try simp only [Act.put, List.setIfInBounds_toArray, List.set_cons_zero, List.set_cons_succ]
                refine wpAnyH_take (i := 23) (v := ?v31) (by simp only [List.getElem?_toArray, List.getElem?_cons_succ, List.getElem?_cons_zero]; rfl) (by kernel_rfl) (by kernel_rfl) (by kernel_rfl) (by exact fun _ _ _ h => h) (Or.inl ⟨by rfl, fun w9 hS9 => ?hy31⟩) hHeld ?rest31
                case hy31 =>
                  dsimp only at hS9
                  obtain ⟨z0, z1, z2, z3⟩ := hS9
                  go_simp
                  try with_reducible rfl
                try simp only [Act.put, List.setIfInBounds_toArray, List.set_cons_zero, List.set_cons_succ]
                refine wpAnyH_take (i := 24) (v := ?v32) (by simp only [List.getElem?_toArray, List.getElem?_cons_succ, List.getElem?_cons_zero]; rfl) (by kernel_rfl) (by kernel_rfl) (by kernel_rfl) (by exact fun _ _ _ h => h) (Or.inl ⟨by rfl, fun w9 hS9 => ?hy32⟩) hHeld ?rest32
                case hy32 =>
                  dsimp only at hS9
                  obtain ⟨z0, z1, z2, z3⟩ := hS9
                  go_simp
                  try with_reducible rfl
                try simp only [Act.put, List.setIfInBounds_toArray, List.set_cons_zero, List.set_cons_succ]
                refine wpAnyH_done (by kernel_rfl) ?_ _
                go_wp2_with fail
                go_roundw
                case rel => exact ⟨0 + 1, by go_num, by omega, HR.out.trans (HB1.out.mono hsr)⟩
                case measure => simp [intOf]; omega
              · obtain ⟨i, rfl⟩ : ∃ i, j = i + 1 := ⟨j - 1, by omega⟩
                obtain ⟨ad', ky, e6, hky, hcy⟩ := HLr.out.at_ (show i < ml by omega)
                cases e6
                have hasc := movesFrom_asc hky HKZ.out
                have hascF : decide (ky ≥ kz) = false := by simp; omega
                have CW := Lib.hid hcy
                have CV : Hid (wr.cell? ⟨ad.block, ad.off + (i + 1), none⟩ = some (.int .i64 kz)) := Lib.hid (by have h := CZ.out; simpa [Addr.add] using h)
                have hi0 : (0 : Int) ≤ (i : Int) + 1 := by omega
                have hi1 : (i : Int) + 1 < (ml : Int) := by omega
                have hiw : IntKind.i64.wrap ((i : Nat) : Int) = (i : Int) := IntWalk.i64_in _ (by omega)
                have hi2 : (i : Int) < (ml : Int) := by omega
                clear hky hcy
                go_wp2_with fail
                have HBd : Hid (Below wr.heap.size wr wr.drew) := Lib.hid (Below.refl _ _).drew
                refine wp_region_held_drew (S := fun w9 => w9.cell? ⟨w_9.heap.size, 0, none⟩ = some (.int .i64 y.st) ∧ w9.cell? ⟨w_9.heap.size, 1, none⟩ = some (.slice p4 k4 r4) ∧ w9.cell? ⟨w_9.heap.size, 2, none⟩ = some (.slice q4 m4 d4) ∧ w9.cell? (ad.add (i + 1)) = some (.int .i64 kz) ∧ w9.cell? (ad.add i) = some (.int .i64 ky) ∧ w9.cell? ⟨ad.block, ad.off + (i + 1), none⟩ = some (.int .i64 kz)) (by kernel_rfl) ⟨cell_stay CY.out.1 HBd.out, cell_stay CY.out.2.1 HBd.out, cell_stay CY.out.2.2.1 HBd.out, cell_stay CZ.out HBd.out, cell_stay CW.out HBd.out, cell_stay CV.out HBd.out⟩ (fun hHeld => ?_)
                refine wpAnyH_take (i := 0) (v := ?v33) (by simp only [List.getElem?_toArray, List.getElem?_cons_succ, List.getElem?_cons_zero]; rfl) (by kernel_rfl) (by kernel_rfl) (by kernel_rfl) (by exact fun _ _ _ h => h) (Or.inl ⟨by rfl, fun w9 hS9 => ?hy33⟩) hHeld ?rest33
                case hy33 =>
                  dsimp only at hS9
                  obtain ⟨z0, z1, z2, z3, z4, z5⟩ := hS9
                  go_simp
                  try with_reducible rfl
                try simp only [Act.put, List.setIfInBounds_toArray, List.set_cons_zero, List.set_cons_succ]
                refine wpAnyH_take (i := 1) (v := ?v34) (by simp only [List.getElem?_toArray, List.getElem?_cons_succ, List.getElem?_cons_zero]; rfl) (by kernel_rfl) (by kernel_rfl) (by kernel_rfl) (by exact fun _ _ _ h => h) (Or.inl ⟨by rfl, fun w9 hS9 => ?hy34⟩) hHeld ?rest34
                case hy34 =>
                  dsimp only at hS9
                  obtain ⟨z0, z1, z2, z3, z4, z5⟩ := hS9
                  go_simp
                  try with_reducible rfl
                try simp only [Act.put, List.setIfInBounds_toArray, List.set_cons_zero, List.set_cons_succ]
                refine wpAnyH_take (i := 2) (v := ?v35) (by simp only [List.getElem?_toArray, List.getElem?_cons_succ, List.getElem?_cons_zero]; rfl) (by kernel_rfl) (by kernel_rfl) (by kernel_rfl) (by exact fun _ _ _ h => h) (Or.inl ⟨by rfl, fun w9 hS9 => ?hy35⟩) hHeld ?rest35
                case hy35 =>
                  dsimp only at hS9
                  obtain ⟨z0, z1, z2, z3, z4, z5⟩ := hS9
                  go_simp
                  try with_reducible rfl
                try simp only [Act.put, List.setIfInBounds_toArray, List.set_cons_zero, List.set_cons_succ]
                refine wpAnyH_take (i := 3) (v := ?v36) (by simp only [List.getElem?_toArray, List.getElem?_cons_succ, List.getElem?_cons_zero]; rfl) (by kernel_rfl) (by kernel_rfl) (by kernel_rfl) (by exact fun _ _ _ h => h) (Or.inl ⟨by rfl, fun w9 hS9 => ?hy36⟩) hHeld ?rest36
                case hy36 =>
                  dsimp only at hS9
                  obtain ⟨z0, z1, z2, z3, z4, z5⟩ := hS9
                  go_simp
                  try with_reducible rfl
                try simp only [Act.put, List.setIfInBounds_toArray, List.set_cons_zero, List.set_cons_succ]
                refine wpAnyH_take (i := 4) (v := ?v37) (by simp only [List.getElem?_toArray, List.getElem?_cons_succ, List.getElem?_cons_zero]; rfl) (by kernel_rfl) (by kernel_rfl) (by kernel_rfl) (by exact fun _ _ _ h => h) (Or.inl ⟨by rfl, fun w9 hS9 => ?hy37⟩) hHeld ?rest37
                case hy37 =>
                  dsimp only at hS9
                  obtain ⟨z0, z1, z2, z3, z4, z5⟩ := hS9
                  go_simp
                  try with_reducible rfl
                try simp only [Act.put, List.setIfInBounds_toArray, List.set_cons_zero, List.set_cons_succ]
                refine wpAnyH_take (i := 5) (v := ?v38) (by simp only [List.getElem?_toArray, List.getElem?_cons_succ, List.getElem?_cons_zero]; rfl) (by kernel_rfl) (by kernel_rfl) (by kernel_rfl) (by exact fun _ _ _ h => h) (Or.inl ⟨by rfl, fun w9 hS9 => ?hy38⟩) hHeld ?rest38
                case hy38 =>
                  dsimp only at hS9
                  obtain ⟨z0, z1, z2, z3, z4, z5⟩ := hS9
                  go_simp
                  try with_reducible rfl
                try simp only [Act.put, List.setIfInBounds_toArray, List.set_cons_zero, List.set_cons_succ]
                refine wpAnyH_take (i := 6) (v := ?v39) (by simp only [List.getElem?_toArray, List.getElem?_cons_succ, List.getElem?_cons_zero]; rfl) (by kernel_rfl) (by kernel_rfl) (by kernel_rfl) (by exact fun _ _ _ h => h) (Or.inl ⟨by rfl, fun w9 hS9 => ?hy39⟩) hHeld ?rest39
                case hy39 =>
                  dsimp only at hS9
                  obtain ⟨z0, z1, z2, z3, z4, z5⟩ := hS9
                  go_simp
                  try with_reducible rfl
                try simp only [Act.put, List.setIfInBounds_toArray, List.set_cons_zero, List.set_cons_succ]
                refine wpAnyH_ready (rs := [7]) (by kernel_rfl) (by simp) (AllReadyH.cons (by simp only [List.getElem?_toArray, List.getElem?_cons_succ, List.getElem?_cons_zero]; rfl) (fun K hK => ?_) AllReadyH.nil)
                go_simp
                refine (moveOf_any sy ty kz (HYr.out.same HBd.out)).mono ?_
                rintro e w1 ⟨rfl, hb1⟩
                have HB1 : Hid (Below wr.heap.size wr w1) := Lib.hid (HBd.out.trans (hb1.mono HBd.out.size))
                clear hb1
                go_wp2_with fail
                refine hK.out _ _ ⟨cell_stay CY.out.1 HB1.out, cell_stay CY.out.2.1 HB1.out, cell_stay CY.out.2.2.1 HB1.out, cell_stay CZ.out HB1.out, cell_stay CW.out HB1.out, cell_stay CV.out HB1.out⟩ (fun hHeld => ?_)
                clear hK K
                try simp only [Act.put, List.setIfInBounds_toArray, List.set_cons_zero, List.set_cons_succ]
                refine wpAnyH_take (i := 8) (v := .bool false) (by simp only [List.getElem?_toArray, List.getElem?_cons_succ, List.getElem?_cons_zero]; rfl) (by kernel_rfl) (by kernel_rfl) (by kernel_rfl) (by exact fun _ _ _ h => h) (Or.inl ⟨by rfl, fun w9 hS9 => ?hy40⟩) hHeld ?rest40
                case hy40 =>
                  dsimp only at hS9
                  obtain ⟨z0, z1, z2, z3, z4, z5⟩ := hS9
                  go_simp
                  all_goals first | with_reducible rfl | (simp only [hidF]) | (simp [hidF]) | (simp; omega)
                try simp only [Act.put, List.setIfInBounds_toArray, List.set_cons_zero, List.set_cons_succ]
                refine wpAnyH_take (i := 9) (v := ?v41) (by simp only [List.getElem?_toArray, List.getElem?_cons_succ, List.getElem?_cons_zero]; rfl) (by kernel_rfl) (by kernel_rfl) (by kernel_rfl) (by exact fun _ _ _ h => h) (Or.inl ⟨by rfl, fun w9 hS9 => ?hy41⟩) hHeld ?rest41
                case hy41 =>
                  dsimp only at hS9
                  obtain ⟨z0, z1, z2, z3, z4, z5⟩ := hS9
                  go_simp
                  try with_reducible rfl
                try simp only [Act.put, List.setIfInBounds_toArray, List.set_cons_zero, List.set_cons_succ]
                refine wpAnyH_take (i := 10) (v := ?v42) (by simp only [List.getElem?_toArray, List.getElem?_cons_succ, List.getElem?_cons_zero]; rfl) (by kernel_rfl) (by kernel_rfl) (by kernel_rfl) (by exact fun _ _ _ h => h) (Or.inl ⟨by rfl, fun w9 hS9 => ?hy42⟩) hHeld ?rest42
                case hy42 =>
                  dsimp only at hS9
                  obtain ⟨z0, z1, z2, z3, z4, z5⟩ := hS9
                  go_simp
                  try with_reducible rfl
                try simp only [Act.put, List.setIfInBounds_toArray, List.set_cons_zero, List.set_cons_succ]
                refine wpAnyH_take (i := 11) (v := ?v43) (by simp only [List.getElem?_toArray, List.getElem?_cons_succ, List.getElem?_cons_zero]; rfl) (by kernel_rfl) (by kernel_rfl) (by kernel_rfl) (by exact fun _ _ _ h => h) (Or.inl ⟨by rfl, fun w9 hS9 => ?hy43⟩) hHeld ?rest43
                case hy43 =>
                  dsimp only at hS9
                  obtain ⟨z0, z1, z2, z3, z4, z5⟩ := hS9
                  go_simp
                  try with_reducible rfl
                try simp only [Act.put, List.setIfInBounds_toArray, List.set_cons_zero, List.set_cons_succ]
                refine wpAnyH_take (i := 12) (v := ?v44) (by simp only [List.getElem?_toArray, List.getElem?_cons_succ, List.getElem?_cons_zero]; rfl) (by kernel_rfl) (by kernel_rfl) (by kernel_rfl) (by exact fun _ _ _ h => h) (Or.inl ⟨by rfl, fun w9 hS9 => ?hy44⟩) hHeld ?rest44
                case hy44 =>
                  dsimp only at hS9
                  obtain ⟨z0, z1, z2, z3, z4, z5⟩ := hS9
                  go_simp
                  try with_reducible rfl
                try simp only [Act.put, List.setIfInBounds_toArray, List.set_cons_zero, List.set_cons_succ]
                refine wpAnyH_take (i := 13) (v := ?v45) (by simp only [List.getElem?_toArray, List.getElem?_cons_succ, List.getElem?_cons_zero]; rfl) (by kernel_rfl) (by kernel_rfl) (by kernel_rfl) (by exact fun _ _ _ h => h) (Or.inl ⟨by rfl, fun w9 hS9 => ?hy45⟩) hHeld ?rest45
                case hy45 =>
                  dsimp only at hS9
                  obtain ⟨z0, z1, z2, z3, z4, z5⟩ := hS9
                  go_simp
                  try with_reducible rfl
                try simp only [Act.put, List.setIfInBounds_toArray, List.set_cons_zero, List.set_cons_succ]
                refine wpAnyH_take (i := 14) (v := ?v46) (by simp only [List.getElem?_toArray, List.getElem?_cons_succ, List.getElem?_cons_zero]; rfl) (by kernel_rfl) (by kernel_rfl) (by kernel_rfl) (by exact fun _ _ _ h => h) (Or.inl ⟨by rfl, fun w9 hS9 => ?hy46⟩) hHeld ?rest46
                case hy46 =>
                  dsimp only at hS9
                  obtain ⟨z0, z1, z2, z3, z4, z5⟩ := hS9
                  go_simp
                  try with_reducible rfl
                try simp only [Act.put, List.setIfInBounds_toArray, List.set_cons_zero, List.set_cons_succ]
                refine wpAnyH_take (i := 15) (v := ?v47) (by simp only [List.getElem?_toArray, List.getElem?_cons_succ, List.getElem?_cons_zero]; rfl) (by kernel_rfl) (by kernel_rfl) (by kernel_rfl) (by exact fun _ _ _ h => h) (Or.inl ⟨by rfl, fun w9 hS9 => ?hy47⟩) hHeld ?rest47
                case hy47 =>
                  dsimp only at hS9
                  obtain ⟨z0, z1, z2, z3, z4, z5⟩ := hS9
                  go_simp
                  try with_reducible rfl
                try simp only [Act.put, List.setIfInBounds_toArray, List.set_cons_zero, List.set_cons_succ]
                refine wpAnyH_take (i := 16) (v := ?v48) (by simp only [List.getElem?_toArray, List.getElem?_cons_succ, List.getElem?_cons_zero]; rfl) (by kernel_rfl) (by kernel_rfl) (by kernel_rfl) (by exact fun _ _ _ h => h) (Or.inl ⟨by rfl, fun w9 hS9 => ?hy48⟩) hHeld ?rest48
                case hy48 =>
                  dsimp only at hS9
                  obtain ⟨z0, z1, z2, z3, z4, z5⟩ := hS9
                  go_simp
                  try with_reducible rfl
                try simp only [Act.put, List.setIfInBounds_toArray, List.set_cons_zero, List.set_cons_succ]
                refine wpAnyH_take (i := 17) (v := ?v49) (by simp only [List.getElem?_toArray, List.getElem?_cons_succ, List.getElem?_cons_zero]; rfl) (by kernel_rfl) (by kernel_rfl) (by kernel_rfl) (by exact fun _ _ _ h => h) (Or.inl ⟨by rfl, fun w9 hS9 => ?hy49⟩) hHeld ?rest49
                case hy49 =>
                  dsimp only at hS9
                  obtain ⟨z0, z1, z2, z3, z4, z5⟩ := hS9
                  go_simp
                  try with_reducible rfl
                try simp only [Act.put, List.setIfInBounds_toArray, List.set_cons_zero, List.set_cons_succ]
                refine wpAnyH_take (i := 18) (v := ?v50) (by simp only [List.getElem?_toArray, List.getElem?_cons_succ, List.getElem?_cons_zero]; rfl) (by kernel_rfl) (by kernel_rfl) (by kernel_rfl) (by exact fun _ _ _ h => h) (Or.inl ⟨by rfl, fun w9 hS9 => ?hy50⟩) hHeld ?rest50
                case hy50 =>
                  dsimp only at hS9
                  obtain ⟨z0, z1, z2, z3, z4, z5⟩ := hS9
                  go_simp
                  try with_reducible rfl
                try simp only [Act.put, List.setIfInBounds_toArray, List.set_cons_zero, List.set_cons_succ]
                refine wpAnyH_take (i := 19) (v := ?v51) (by simp only [List.getElem?_toArray, List.getElem?_cons_succ, List.getElem?_cons_zero]; rfl) (by kernel_rfl) (by kernel_rfl) (by kernel_rfl) (by exact fun _ _ _ h => h) (Or.inl ⟨by rfl, fun w9 hS9 => ?hy51⟩) hHeld ?rest51
                case hy51 =>
                  dsimp only at hS9
                  obtain ⟨z0, z1, z2, z3, z4, z5⟩ := hS9
                  go_simp
                  try with_reducible rfl
                try simp only [Act.put, List.setIfInBounds_toArray, List.set_cons_zero, List.set_cons_succ]
                refine wpAnyH_take (i := 20) (v := ?v52) (by simp only [List.getElem?_toArray, List.getElem?_cons_succ, List.getElem?_cons_zero]; rfl) (by kernel_rfl) (by kernel_rfl) (by kernel_rfl) (by exact fun _ _ _ h => h) (Or.inl ⟨by rfl, fun w9 hS9 => ?hy52⟩) hHeld ?rest52
                case hy52 =>
                  dsimp only at hS9
                  obtain ⟨z0, z1, z2, z3, z4, z5⟩ := hS9
                  go_simp
                  try with_reducible rfl
                try simp only [Act.put, List.setIfInBounds_toArray, List.set_cons_zero, List.set_cons_succ]
                refine wpAnyH_take (i := 21) (v := ?v53) (by simp only [List.getElem?_toArray, List.getElem?_cons_succ, List.getElem?_cons_zero]; rfl) (by kernel_rfl) (by kernel_rfl) (by kernel_rfl) (by exact fun _ _ _ h => h) (Or.inl ⟨by rfl, fun w9 hS9 => ?hy53⟩) hHeld ?rest53
                case hy53 =>
                  dsimp only at hS9
                  obtain ⟨z0, z1, z2, z3, z4, z5⟩ := hS9
                  go_simp
                  try with_reducible rfl
                try simp only [Act.put, List.setIfInBounds_toArray, List.set_cons_zero, List.set_cons_succ]
                refine wpAnyH_take (i := 22) (v := ?v54) (by simp only [List.getElem?_toArray, List.getElem?_cons_succ, List.getElem?_cons_zero]; rfl) (by kernel_rfl) (by kernel_rfl) (by kernel_rfl) (by exact fun _ _ _ h => h) (Or.inl ⟨by rfl, fun w9 hS9 => ?hy54⟩) hHeld ?rest54
                case hy54 =>
                  dsimp only at hS9
                  obtain ⟨z0, z1, z2, z3, z4, z5⟩ := hS9
                  go_simp
                  try with_reducible rfl
                try simp only [Act.put, List.setIfInBounds_toArray, List.set_cons_zero, List.set_cons_succ]
                refine wpAnyH_take (i := 23) (v := ?v55) (by simp only [List.getElem?_toArray, List.getElem?_cons_succ, List.getElem?_cons_zero]; rfl) (by kernel_rfl) (by kernel_rfl) (by kernel_rfl) (by exact fun _ _ _ h => h) (Or.inl ⟨by rfl, fun w9 hS9 => ?hy55⟩) hHeld ?rest55
                case hy55 =>
                  dsimp only at hS9
                  obtain ⟨z0, z1, z2, z3, z4, z5⟩ := hS9
                  go_simp
                  try with_reducible rfl
                try simp only [Act.put, List.setIfInBounds_toArray, List.set_cons_zero, List.set_cons_succ]
                refine wpAnyH_take (i := 24) (v := ?v56) (by simp only [List.getElem?_toArray, List.getElem?_cons_succ, List.getElem?_cons_zero]; rfl) (by kernel_rfl) (by kernel_rfl) (by kernel_rfl) (by exact fun _ _ _ h => h) (Or.inl ⟨by rfl, fun w9 hS9 => ?hy56⟩) hHeld ?rest56
                case hy56 =>
                  dsimp only at hS9
                  obtain ⟨z0, z1, z2, z3, z4, z5⟩ := hS9
                  go_simp
                  try with_reducible rfl
                try simp only [Act.put, List.setIfInBounds_toArray, List.set_cons_zero, List.set_cons_succ]
                refine wpAnyH_done (by kernel_rfl) ?_ _
                go_wp2_with fail
                go_roundw
                case rel => exact ⟨i + 1 + 1, by go_num, by omega, HR.out.trans (HB1.out.mono hsr)⟩
                case measure => simp [intOf]; omega
            · obtain rfl : ml = j := by omega
              go_wp2_with fail
              go_ret
              exact ⟨rfl, HB.out.trans (HR.out.mono HB.out.size)⟩
        · have g1 : decide (sv ≥ 0) = false := by simpa using hsn
          obtain ⟨ea1, eb1, ec1, -⟩ := three_cells HX1.out
          obtain ⟨ea2, eb2, ec2, -⟩ := three_cells HX2.out
          go_wp2_with fail
          clear ea1 eb1 ec1 ea2 eb2 ec2
          refine (drawMovesFrom_any a0 n0 c0 _ HC.out).mono ?_
          rintro e w_58 ⟨v4, y, sy, ty, rfl, hmac, hok, hz⟩
          have hsw_58 : w_7.heap.size ≤ w_58.heap.size := hz.size
          replace HC := Lib.hid (HC.out.same (hz))
          replace HM := Lib.hid (HM.out.same (hz))
          replace HN := Lib.hid (HN.out.same (hz))
          replace HD := Lib.hid (HD.out.same (hz))
          replace HW := Lib.hid (HW.out.same (hz))
          replace HX1 := Lib.hid (((hz).block _ (by omega)).trans HX1.out)
          replace HX2 := Lib.hid (((hz).block _ (by omega)).trans HX2.out)
          replace HB := Lib.hid (HB.out.trans ((hz).mono HB.out.size))
          obtain ⟨p4, k4, r4, q4, m4, d4, rfl⟩ := hmac.shape
          have HY := Lib.hid hmac
          have hpy : y.parts ≤ 100 := by unfold Mac.parts; have := hok.1; have := hok.2.1; omega
          clear hmac hok
          clear hz
          have HAL := Lib.hid (alloc_same w_58 (.cells #[.int .i64 y.st, .slice p4 k4 r4, .slice q4 m4 d4] 27))
          have HX4 := Lib.hid (heap_alloc_new w_58 (.cells #[.int .i64 y.st, .slice p4 k4 r4, .slice q4 m4 d4] 27 (0, 0)))
          change Hid ((World.alloc w_58 (.cells #[.int .i64 y.st, .slice p4 k4 r4, .slice q4 m4 d4] 27)).heap[w_58.heap.size]? = _) at HX4
          replace HC := Lib.hid (HC.out.same (HAL.out))
          replace HM := Lib.hid (HM.out.same (HAL.out))
          replace HN := Lib.hid (HN.out.same (HAL.out))
          replace HD := Lib.hid (HD.out.same (HAL.out))
          replace HW := Lib.hid (HW.out.same (HAL.out))
          replace HY := Lib.hid (HY.out.same (HAL.out))
          replace HX1 := Lib.hid (((HAL.out).block _ (by omega)).trans HX1.out)
          replace HX2 := Lib.hid (((HAL.out).block _ (by omega)).trans HX2.out)
          replace HB := Lib.hid (HB.out.trans ((HAL.out).mono HB.out.size))
          have hsw_59 : w_58.heap.size < (World.alloc w_58 (.cells #[.int .i64 y.st, .slice p4 k4 r4, .slice q4 m4 d4] 27)).heap.size := by simp
          obtain ⟨ea1, eb1, ec1, -⟩ := three_cells HX1.out
          obtain ⟨ea2, eb2, ec2, -⟩ := three_cells HX2.out
          obtain ⟨ea4, eb4, ec4, -⟩ := three_cells HX4.out
          clear HAL
          go_wp2_with fail
          clear ea1 eb1 ec1 ea2 eb2 ec2 ea4 eb4 ec4
          generalize hgen : World.alloc w_58 (.cells #[.int .i64 y.st, .slice p4 k4 r4, .slice q4 m4 d4] 27) = w_59 at *
          clear hgen
          refine (movesFrom_any sy ty HY.out (by omega)).mono ?_
          rintro e w_60 ⟨ql, ml, cl, rfl, hol, hz⟩
          have hsw_60 : w_59.heap.size ≤ w_60.heap.size := hz.size
          replace HC := Lib.hid (HC.out.same (hz))
          replace HM := Lib.hid (HM.out.same (hz))
          replace HN := Lib.hid (HN.out.same (hz))
          replace HD := Lib.hid (HD.out.same (hz))
          replace HW := Lib.hid (HW.out.same (hz))
          replace HY := Lib.hid (HY.out.same (hz))
          replace HX1 := Lib.hid (((hz).block _ (by omega)).trans HX1.out)
          replace HX2 := Lib.hid (((hz).block _ (by omega)).trans HX2.out)
          replace HX4 := Lib.hid (((hz).block _ (by omega)).trans HX4.out)
          replace HB := Lib.hid (HB.out.trans ((hz).mono HB.out.size))
          have HL9 := Lib.hid hol.nums
          have hll := hol.len
          have hml8 : ml ≤ 100 := by have := movesFrom_len y sy ty; unfold Mac.parts at hpy; omega
          clear hol
          clear hz
          obtain ⟨ea1, eb1, ec1, -⟩ := three_cells HX1.out
          obtain ⟨ea2, eb2, ec2, -⟩ := three_cells HX2.out
          obtain ⟨ea4, eb4, ec4, -⟩ := three_cells HX4.out
          go_wp2_with fail
          clear ea1 eb1 ec1 ea2 eb2 ec2 ea4 eb4 ec4
          go_loopw [13] (fun t wr => ∃ (j : Nat), t = .int .i64 j ∧ j ≤ ml ∧ Below w_60.heap.size w_60 wr) (fun t _ => ml - (intOf t).toNat)
          case atStart => exact ⟨0, rfl, Nat.zero_le _, Below.refl _ _⟩
          case round =>
            obtain ⟨j, rfl, hj, hb⟩ := hrel
            have HR := Lib.hid hb
            have hsr := hb.size
            have CY := Lib.hid (three_cells ((hb.block _ (by omega)).trans HX4.out))
            have HYr := Lib.hid (HY.out.same hb)
            have HLr := Lib.hid (HL9.out.same hb)
            clear hb
            by_cases hlt : j < ml
            · obtain ⟨ad, kz, e5, hkz, hcz⟩ := HLr.out.at_ hlt
              subst e5
              have hidF : decide (moveOf y sy ty kz < 0) = false := by
                have := movesFrom_hit hkz
                simp; omega
              have HKZ := Lib.hid hkz
              have CZ := Lib.hid hcz
              clear hkz hcz
              by_cases hj0 : j = 0
              · subst hj0
                have CZ0 : Hid (wr.cell? ad = some (.int .i64 kz)) := Lib.hid (by
                  have h := CZ.out
                  have e9 : ad.add 0 = ad := by cases ad; rfl
                  rwa [e9] at h)
                go_wp2_with fail
                have HBd : Hid (Below wr.heap.size wr wr.drew) := Lib.hid (Below.refl _ _).drew
                refine wp_region_held_drew (S := fun w9 => w9.cell? ⟨w_58.heap.size, 0, none⟩ = some (.int .i64 y.st) ∧ w9.cell? ⟨w_58.heap.size, 1, none⟩ = some (.slice p4 k4 r4) ∧ w9.cell? ⟨w_58.heap.size, 2, none⟩ = some (.slice q4 m4 d4) ∧ w9.cell? ad = some (.int .i64 kz)) (by kernel_rfl) ⟨cell_stay CY.out.1 HBd.out, cell_stay CY.out.2.1 HBd.out, cell_stay CY.out.2.2.1 HBd.out, cell_stay CZ0.out HBd.out⟩ (fun hHeld => ?_)
                refine wpAnyH_take (i := 0) (v := ?v57) (by simp only [List.getElem?_toArray, List.getElem?_cons_succ, List.getElem?_cons_zero]; rfl) (by kernel_rfl) (by kernel_rfl) (by kernel_rfl) (by exact fun _ _ _ h => h) (Or.inl ⟨by rfl, fun w9 hS9 => ?hy57⟩) hHeld ?rest57
                case hy57 =>
                  dsimp only at hS9
                  obtain ⟨z0, z1, z2, z3⟩ := hS9
                  go_simp
                  try with_reducible rfl
                try simp only [Act.put, List.setIfInBounds_toArray, List.set_cons_zero, List.set_cons_succ]
                refine wpAnyH_take (i := 1) (v := ?v58) (by simp only [List.getElem?_toArray, List.getElem?_cons_succ, List.getElem?_cons_zero]; rfl) (by kernel_rfl) (by kernel_rfl) (by kernel_rfl) (by exact fun _ _ _ h => h) (Or.inl ⟨by rfl, fun w9 hS9 => ?hy58⟩) hHeld ?rest58
                case hy58 =>
                  dsimp only at hS9
                  obtain ⟨z0, z1, z2, z3⟩ := hS9
                  go_simp
                  try with_reducible rfl
                try simp only [Act.put, List.setIfInBounds_toArray, List.set_cons_zero, List.set_cons_succ]
                refine wpAnyH_take (i := 2) (v := ?v59) (by simp only [List.getElem?_toArray, List.getElem?_cons_succ, List.getElem?_cons_zero]; rfl) (by kernel_rfl) (by kernel_rfl) (by kernel_rfl) (by exact fun _ _ _ h => h) (Or.inl ⟨by rfl, fun w9 hS9 => ?hy59⟩) hHeld ?rest59
                case hy59 =>
                  dsimp only at hS9
                  obtain ⟨z0, z1, z2, z3⟩ := hS9
                  go_simp
                  try with_reducible rfl
                try simp only [Act.put, List.setIfInBounds_toArray, List.set_cons_zero, List.set_cons_succ]
                refine wpAnyH_take (i := 3) (v := ?v60) (by simp only [List.getElem?_toArray, List.getElem?_cons_succ, List.getElem?_cons_zero]; rfl) (by kernel_rfl) (by kernel_rfl) (by kernel_rfl) (by exact fun _ _ _ h => h) (Or.inl ⟨by rfl, fun w9 hS9 => ?hy60⟩) hHeld ?rest60
                case hy60 =>
                  dsimp only at hS9
                  obtain ⟨z0, z1, z2, z3⟩ := hS9
                  go_simp
                  try with_reducible rfl
                try simp only [Act.put, List.setIfInBounds_toArray, List.set_cons_zero, List.set_cons_succ]
                refine wpAnyH_take (i := 4) (v := ?v61) (by simp only [List.getElem?_toArray, List.getElem?_cons_succ, List.getElem?_cons_zero]; rfl) (by kernel_rfl) (by kernel_rfl) (by kernel_rfl) (by exact fun _ _ _ h => h) (Or.inl ⟨by rfl, fun w9 hS9 => ?hy61⟩) hHeld ?rest61
                case hy61 =>
                  dsimp only at hS9
                  obtain ⟨z0, z1, z2, z3⟩ := hS9
                  go_simp
                  try with_reducible rfl
                try simp only [Act.put, List.setIfInBounds_toArray, List.set_cons_zero, List.set_cons_succ]
                refine wpAnyH_take (i := 5) (v := ?v62) (by simp only [List.getElem?_toArray, List.getElem?_cons_succ, List.getElem?_cons_zero]; rfl) (by kernel_rfl) (by kernel_rfl) (by kernel_rfl) (by exact fun _ _ _ h => h) (Or.inl ⟨by rfl, fun w9 hS9 => ?hy62⟩) hHeld ?rest62
                case hy62 =>
                  dsimp only at hS9
                  obtain ⟨z0, z1, z2, z3⟩ := hS9
                  go_simp
                  try with_reducible rfl
                try simp only [Act.put, List.setIfInBounds_toArray, List.set_cons_zero, List.set_cons_succ]
                refine wpAnyH_take (i := 6) (v := ?v63) (by simp only [List.getElem?_toArray, List.getElem?_cons_succ, List.getElem?_cons_zero]; rfl) (by kernel_rfl) (by kernel_rfl) (by kernel_rfl) (by exact fun _ _ _ h => h) (Or.inl ⟨by rfl, fun w9 hS9 => ?hy63⟩) hHeld ?rest63
                case hy63 =>
                  dsimp only at hS9
                  obtain ⟨z0, z1, z2, z3⟩ := hS9
                  go_simp
                  try with_reducible rfl
                try simp only [Act.put, List.setIfInBounds_toArray, List.set_cons_zero, List.set_cons_succ]
                refine wpAnyH_ready (rs := [7]) (by kernel_rfl) (by simp) (AllReadyH.cons (by simp only [List.getElem?_toArray, List.getElem?_cons_succ, List.getElem?_cons_zero]; rfl) (fun K hK => ?_) AllReadyH.nil)
                go_simp
                refine (moveOf_any sy ty kz (HYr.out.same HBd.out)).mono ?_
                rintro e w1 ⟨rfl, hb1⟩
                have HB1 : Hid (Below wr.heap.size wr w1) := Lib.hid (HBd.out.trans (hb1.mono HBd.out.size))
                clear hb1
                go_wp2_with fail
                refine hK.out _ _ ⟨cell_stay CY.out.1 HB1.out, cell_stay CY.out.2.1 HB1.out, cell_stay CY.out.2.2.1 HB1.out, cell_stay CZ0.out HB1.out⟩ (fun hHeld => ?_)
                clear hK K
                try simp only [Act.put, List.setIfInBounds_toArray, List.set_cons_zero, List.set_cons_succ]
                refine wpAnyH_take (i := 8) (v := .bool false) (by simp only [List.getElem?_toArray, List.getElem?_cons_succ, List.getElem?_cons_zero]; rfl) (by kernel_rfl) (by kernel_rfl) (by kernel_rfl) (by exact fun _ _ _ h => h) (Or.inl ⟨by rfl, fun w9 hS9 => ?hy64⟩) hHeld ?rest64
                case hy64 =>
                  dsimp only at hS9
                  obtain ⟨z0, z1, z2, z3⟩ := hS9
                  go_simp
                  all_goals first | with_reducible rfl | (simp only [hidF]) | (simp [hidF]) | (simp; omega)
                try simp only [Act.put, List.setIfInBounds_toArray, List.set_cons_zero, List.set_cons_succ]
                refine wpAnyH_take (i := 9) (v := ?v65) (by simp only [List.getElem?_toArray, List.getElem?_cons_succ, List.getElem?_cons_zero]; rfl) (by kernel_rfl) (by kernel_rfl) (by kernel_rfl) (by exact fun _ _ _ h => h) (Or.inl ⟨by rfl, fun w9 hS9 => ?hy65⟩) hHeld ?rest65
                case hy65 =>
                  dsimp only at hS9
                  obtain ⟨z0, z1, z2, z3⟩ := hS9
                  go_simp
                  try with_reducible rfl
                try simp only [Act.put, List.setIfInBounds_toArray, List.set_cons_zero, List.set_cons_succ]
                refine wpAnyH_take (i := 10) (v := ?v66) (by simp only [List.getElem?_toArray, List.getElem?_cons_succ, List.getElem?_cons_zero]; rfl) (by kernel_rfl) (by kernel_rfl) (by kernel_rfl) (by exact fun _ _ _ h => h) (Or.inl ⟨by rfl, fun w9 hS9 => ?hy66⟩) hHeld ?rest66
                case hy66 =>
                  dsimp only at hS9
                  obtain ⟨z0, z1, z2, z3⟩ := hS9
                  go_simp
                  try with_reducible rfl
                try simp only [Act.put, List.setIfInBounds_toArray, List.set_cons_zero, List.set_cons_succ]
                refine wpAnyH_take (i := 11) (v := ?v67) (by simp only [List.getElem?_toArray, List.getElem?_cons_succ, List.getElem?_cons_zero]; rfl) (by kernel_rfl) (by kernel_rfl) (by kernel_rfl) (by exact fun _ _ _ h => h) (Or.inl ⟨by rfl, fun w9 hS9 => ?hy67⟩) hHeld ?rest67
                case hy67 =>
                  dsimp only at hS9
                  obtain ⟨z0, z1, z2, z3⟩ := hS9
                  go_simp
                  try with_reducible rfl
                try simp only [Act.put, List.setIfInBounds_toArray, List.set_cons_zero, List.set_cons_succ]
                refine wpAnyH_take (i := 12) (v := ?v68) (by simp only [List.getElem?_toArray, List.getElem?_cons_succ, List.getElem?_cons_zero]; rfl) (by kernel_rfl) (by kernel_rfl) (by kernel_rfl) (by exact fun _ _ _ h => h) (Or.inl ⟨by rfl, fun w9 hS9 => ?hy68⟩) hHeld ?rest68
                case hy68 =>
                  dsimp only at hS9
                  obtain ⟨z0, z1, z2, z3⟩ := hS9
                  go_simp
                  try with_reducible rfl
                try simp only [Act.put, List.setIfInBounds_toArray, List.set_cons_zero, List.set_cons_succ]
                refine wpAnyH_take (i := 13) (v := undef) (by simp only [List.getElem?_toArray, List.getElem?_cons_succ, List.getElem?_cons_zero]; rfl) (by kernel_rfl) (by kernel_rfl) (by kernel_rfl) (by exact fun _ _ _ h => h) (Or.inr ⟨by rfl, rfl⟩) hHeld ?_
                try simp only [Act.put, List.setIfInBounds_toArray, List.set_cons_zero, List.set_cons_succ]
                refine wpAnyH_take (i := 14) (v := undef) (by simp only [List.getElem?_toArray, List.getElem?_cons_succ, List.getElem?_cons_zero]; rfl) (by kernel_rfl) (by kernel_rfl) (by kernel_rfl) (by exact fun _ _ _ h => h) (Or.inr ⟨by rfl, rfl⟩) hHeld ?_
                try simp only [Act.put, List.setIfInBounds_toArray, List.set_cons_zero, List.set_cons_succ]
                refine wpAnyH_take (i := 15) (v := undef) (by simp only [List.getElem?_toArray, List.getElem?_cons_succ, List.getElem?_cons_zero]; rfl) (by kernel_rfl) (by kernel_rfl) (by kernel_rfl) (by exact fun _ _ _ h => h) (Or.inr ⟨by rfl, rfl⟩) hHeld ?_
                try simp only [Act.put, List.setIfInBounds_toArray, List.set_cons_zero, List.set_cons_succ]
                refine wpAnyH_take (i := 16) (v := undef) (by simp only [List.getElem?_toArray, List.getElem?_cons_succ, List.getElem?_cons_zero]; rfl) (by kernel_rfl) (by kernel_rfl) (by kernel_rfl) (by exact fun _ _ _ h => h) (Or.inr ⟨by rfl, rfl⟩) hHeld ?_
                try simp only [Act.put, List.setIfInBounds_toArray, List.set_cons_zero, List.set_cons_succ]
                refine wpAnyH_take (i := 17) (v := undef) (by simp only [List.getElem?_toArray, List.getElem?_cons_succ, List.getElem?_cons_zero]; rfl) (by kernel_rfl) (by kernel_rfl) (by kernel_rfl) (by exact fun _ _ _ h => h) (Or.inr ⟨by rfl, rfl⟩) hHeld ?_
                try simp only [Act.put, List.setIfInBounds_toArray, List.set_cons_zero, List.set_cons_succ]
                refine wpAnyH_take (i := 18) (v := undef) (by simp only [List.getElem?_toArray, List.getElem?_cons_succ, List.getElem?_cons_zero]; rfl) (by kernel_rfl) (by kernel_rfl) (by kernel_rfl) (by exact fun _ _ _ h => h) (Or.inr ⟨by rfl, rfl⟩) hHeld ?_
                try simp only [Act.put, List.setIfInBounds_toArray, List.set_cons_zero, List.set_cons_succ]
                refine wpAnyH_take (i := 19) (v := undef) (by simp only [List.getElem?_toArray, List.getElem?_cons_succ, List.getElem?_cons_zero]; rfl) (by kernel_rfl) (by kernel_rfl) (by kernel_rfl) (by exact fun _ _ _ h => h) (Or.inr ⟨by rfl, rfl⟩) hHeld ?_
                try simp only [Act.put, List.setIfInBounds_toArray, List.set_cons_zero, List.set_cons_succ]
                refine wpAnyH_take (i := 20) (v := undef) (by simp only [List.getElem?_toArray, List.getElem?_cons_succ, List.getElem?_cons_zero]; rfl) (by kernel_rfl) (by kernel_rfl) (by kernel_rfl) (by exact fun _ _ _ h => h) (Or.inr ⟨by rfl, rfl⟩) hHeld ?_
                try simp only [Act.put, List.setIfInBounds_toArray, List.set_cons_zero, List.set_cons_succ]
                refine wpAnyH_take (i := 21) (v := undef) (by simp only [List.getElem?_toArray, List.getElem?_cons_succ, List.getElem?_cons_zero]; rfl) (by kernel_rfl) (by kernel_rfl) (by kernel_rfl) (by exact fun _ _ _ h => h) (Or.inr ⟨by rfl, rfl⟩) hHeld ?_
                try simp only [Act.put, List.setIfInBounds_toArray, List.set_cons_zero, List.set_cons_succ]
                refine wpAnyH_take (i := 22) (v := undef) (by simp only [List.getElem?_toArray, List.getElem?_cons_succ, List.getElem?_cons_zero]; rfl) (by kernel_rfl) (by kernel_rfl) (by kernel_rfl) (by exact fun _ _ _ h => h) (Or.inr ⟨by rfl, rfl⟩) hHeld ?_
                try simp only [Act.put, List.setIfInBounds_toArray, List.set_cons_zero, List.set_cons_succ]
                refine wpAnyH_take (i := 23) (v := ?v79) (by simp only [List.getElem?_toArray, List.getElem?_cons_succ, List.getElem?_cons_zero]; rfl) (by kernel_rfl) (by kernel_rfl) (by kernel_rfl) (by exact fun _ _ _ h => h) (Or.inl ⟨by rfl, fun w9 hS9 => ?hy79⟩) hHeld ?rest79
                case hy79 =>
                  dsimp only at hS9
                  obtain ⟨z0, z1, z2, z3⟩ := hS9
                  go_simp
                  try with_reducible rfl
                try simp only [Act.put, List.setIfInBounds_toArray, List.set_cons_zero, List.set_cons_succ]
                refine wpAnyH_take (i := 24) (v := ?v80) (by simp only [List.getElem?_toArray, List.getElem?_cons_succ, List.getElem?_cons_zero]; rfl) (by kernel_rfl) (by kernel_rfl) (by kernel_rfl) (by exact fun _ _ _ h => h) (Or.inl ⟨by rfl, fun w9 hS9 => ?hy80⟩) hHeld ?rest80
                case hy80 =>
                  dsimp only at hS9
                  obtain ⟨z0, z1, z2, z3⟩ := hS9
                  go_simp
                  try with_reducible rfl
                try simp only [Act.put, List.setIfInBounds_toArray, List.set_cons_zero, List.set_cons_succ]
                refine wpAnyH_done (by kernel_rfl) ?_ _
                go_wp2_with fail
                go_roundw
                case rel => exact ⟨0 + 1, by go_num, by omega, HR.out.trans (HB1.out.mono hsr)⟩
                case measure => simp [intOf]; omega
              · obtain ⟨i, rfl⟩ : ∃ i, j = i + 1 := ⟨j - 1, by omega⟩
                obtain ⟨ad', ky, e6, hky, hcy⟩ := HLr.out.at_ (show i < ml by omega)
                cases e6
                have hasc := movesFrom_asc hky HKZ.out
                have hascF : decide (ky ≥ kz) = false := by simp; omega
                have CW := Lib.hid hcy
                have CV : Hid (wr.cell? ⟨ad.block, ad.off + (i + 1), none⟩ = some (.int .i64 kz)) := Lib.hid (by have h := CZ.out; simpa [Addr.add] using h)
                have hi0 : (0 : Int) ≤ (i : Int) + 1 := by omega
                have hi1 : (i : Int) + 1 < (ml : Int) := by omega
                have hiw : IntKind.i64.wrap ((i : Nat) : Int) = (i : Int) := IntWalk.i64_in _ (by omega)
                have hi2 : (i : Int) < (ml : Int) := by omega
                clear hky hcy
                go_wp2_with fail
                have HBd : Hid (Below wr.heap.size wr wr.drew) := Lib.hid (Below.refl _ _).drew
                refine wp_region_held_drew (S := fun w9 => w9.cell? ⟨w_58.heap.size, 0, none⟩ = some (.int .i64 y.st) ∧ w9.cell? ⟨w_58.heap.size, 1, none⟩ = some (.slice p4 k4 r4) ∧ w9.cell? ⟨w_58.heap.size, 2, none⟩ = some (.slice q4 m4 d4) ∧ w9.cell? (ad.add (i + 1)) = some (.int .i64 kz) ∧ w9.cell? (ad.add i) = some (.int .i64 ky) ∧ w9.cell? ⟨ad.block, ad.off + (i + 1), none⟩ = some (.int .i64 kz)) (by kernel_rfl) ⟨cell_stay CY.out.1 HBd.out, cell_stay CY.out.2.1 HBd.out, cell_stay CY.out.2.2.1 HBd.out, cell_stay CZ.out HBd.out, cell_stay CW.out HBd.out, cell_stay CV.out HBd.out⟩ (fun hHeld => ?_)
                refine wpAnyH_take (i := 0) (v := ?v81) (by simp only [List.getElem?_toArray, List.getElem?_cons_succ, List.getElem?_cons_zero]; rfl) (by kernel_rfl) (by kernel_rfl) (by kernel_rfl) (by exact fun _ _ _ h => h) (Or.inl ⟨by rfl, fun w9 hS9 => ?hy81⟩) hHeld ?rest81
                case hy81 =>
                  dsimp only at hS9
                  obtain ⟨z0, z1, z2, z3, z4, z5⟩ := hS9
                  go_simp
                  try with_reducible rfl
                try simp only [Act.put, List.setIfInBounds_toArray, List.set_cons_zero, List.set_cons_succ]
                refine wpAnyH_take (i := 1) (v := ?v82) (by simp only [List.getElem?_toArray, List.getElem?_cons_succ, List.getElem?_cons_zero]; rfl) (by kernel_rfl) (by kernel_rfl) (by kernel_rfl) (by exact fun _ _ _ h => h) (Or.inl ⟨by rfl, fun w9 hS9 => ?hy82⟩) hHeld ?rest82
                case hy82 =>
                  dsimp only at hS9
                  obtain ⟨z0, z1, z2, z3, z4, z5⟩ := hS9
                  go_simp
                  try with_reducible rfl
                try simp only [Act.put, List.setIfInBounds_toArray, List.set_cons_zero, List.set_cons_succ]
                refine wpAnyH_take (i := 2) (v := ?v83) (by simp only [List.getElem?_toArray, List.getElem?_cons_succ, List.getElem?_cons_zero]; rfl) (by kernel_rfl) (by kernel_rfl) (by kernel_rfl) (by exact fun _ _ _ h => h) (Or.inl ⟨by rfl, fun w9 hS9 => ?hy83⟩) hHeld ?rest83
                case hy83 =>
                  dsimp only at hS9
                  obtain ⟨z0, z1, z2, z3, z4, z5⟩ := hS9
                  go_simp
                  try with_reducible rfl
                try simp only [Act.put, List.setIfInBounds_toArray, List.set_cons_zero, List.set_cons_succ]
                refine wpAnyH_take (i := 3) (v := ?v84) (by simp only [List.getElem?_toArray, List.getElem?_cons_succ, List.getElem?_cons_zero]; rfl) (by kernel_rfl) (by kernel_rfl) (by kernel_rfl) (by exact fun _ _ _ h => h) (Or.inl ⟨by rfl, fun w9 hS9 => ?hy84⟩) hHeld ?rest84
                case hy84 =>
                  dsimp only at hS9
                  obtain ⟨z0, z1, z2, z3, z4, z5⟩ := hS9
                  go_simp
                  try with_reducible rfl
                try simp only [Act.put, List.setIfInBounds_toArray, List.set_cons_zero, List.set_cons_succ]
                refine wpAnyH_take (i := 4) (v := ?v85) (by simp only [List.getElem?_toArray, List.getElem?_cons_succ, List.getElem?_cons_zero]; rfl) (by kernel_rfl) (by kernel_rfl) (by kernel_rfl) (by exact fun _ _ _ h => h) (Or.inl ⟨by rfl, fun w9 hS9 => ?hy85⟩) hHeld ?rest85
                case hy85 =>
                  dsimp only at hS9
                  obtain ⟨z0, z1, z2, z3, z4, z5⟩ := hS9
                  go_simp
                  try with_reducible rfl
                try simp only [Act.put, List.setIfInBounds_toArray, List.set_cons_zero, List.set_cons_succ]
                refine wpAnyH_take (i := 5) (v := ?v86) (by simp only [List.getElem?_toArray, List.getElem?_cons_succ, List.getElem?_cons_zero]; rfl) (by kernel_rfl) (by kernel_rfl) (by kernel_rfl) (by exact fun _ _ _ h => h) (Or.inl ⟨by rfl, fun w9 hS9 => ?hy86⟩) hHeld ?rest86
                case hy86 =>
                  dsimp only at hS9
                  obtain ⟨z0, z1, z2, z3, z4, z5⟩ := hS9
                  go_simp
                  try with_reducible rfl
                try simp only [Act.put, List.setIfInBounds_toArray, List.set_cons_zero, List.set_cons_succ]
                refine wpAnyH_take (i := 6) (v := ?v87) (by simp only [List.getElem?_toArray, List.getElem?_cons_succ, List.getElem?_cons_zero]; rfl) (by kernel_rfl) (by kernel_rfl) (by kernel_rfl) (by exact fun _ _ _ h => h) (Or.inl ⟨by rfl, fun w9 hS9 => ?hy87⟩) hHeld ?rest87
                case hy87 =>
                  dsimp only at hS9
                  obtain ⟨z0, z1, z2, z3, z4, z5⟩ := hS9
                  go_simp
                  try with_reducible rfl
                try simp only [Act.put, List.setIfInBounds_toArray, List.set_cons_zero, List.set_cons_succ]
                refine wpAnyH_ready (rs := [7]) (by kernel_rfl) (by simp) (AllReadyH.cons (by simp only [List.getElem?_toArray, List.getElem?_cons_succ, List.getElem?_cons_zero]; rfl) (fun K hK => ?_) AllReadyH.nil)
                go_simp
                refine (moveOf_any sy ty kz (HYr.out.same HBd.out)).mono ?_
                rintro e w1 ⟨rfl, hb1⟩
                have HB1 : Hid (Below wr.heap.size wr w1) := Lib.hid (HBd.out.trans (hb1.mono HBd.out.size))
                clear hb1
                go_wp2_with fail
                refine hK.out _ _ ⟨cell_stay CY.out.1 HB1.out, cell_stay CY.out.2.1 HB1.out, cell_stay CY.out.2.2.1 HB1.out, cell_stay CZ.out HB1.out, cell_stay CW.out HB1.out, cell_stay CV.out HB1.out⟩ (fun hHeld => ?_)
                clear hK K
                try simp only [Act.put, List.setIfInBounds_toArray, List.set_cons_zero, List.set_cons_succ]
                refine wpAnyH_take (i := 8) (v := .bool false) (by simp only [List.getElem?_toArray, List.getElem?_cons_succ, List.getElem?_cons_zero]; rfl) (by kernel_rfl) (by kernel_rfl) (by kernel_rfl) (by exact fun _ _ _ h => h) (Or.inl ⟨by rfl, fun w9 hS9 => ?hy88⟩) hHeld ?rest88
                case hy88 =>
                  dsimp only at hS9
                  obtain ⟨z0, z1, z2, z3, z4, z5⟩ := hS9
                  go_simp
                  all_goals first | with_reducible rfl | (simp only [hidF]) | (simp [hidF]) | (simp; omega)
                try simp only [Act.put, List.setIfInBounds_toArray, List.set_cons_zero, List.set_cons_succ]
                refine wpAnyH_take (i := 9) (v := ?v89) (by simp only [List.getElem?_toArray, List.getElem?_cons_succ, List.getElem?_cons_zero]; rfl) (by kernel_rfl) (by kernel_rfl) (by kernel_rfl) (by exact fun _ _ _ h => h) (Or.inl ⟨by rfl, fun w9 hS9 => ?hy89⟩) hHeld ?rest89
                case hy89 =>
                  dsimp only at hS9
                  obtain ⟨z0, z1, z2, z3, z4, z5⟩ := hS9
                  go_simp
                  try with_reducible rfl
                try simp only [Act.put, List.setIfInBounds_toArray, List.set_cons_zero, List.set_cons_succ]
                refine wpAnyH_take (i := 10) (v := ?v90) (by simp only [List.getElem?_toArray, List.getElem?_cons_succ, List.getElem?_cons_zero]; rfl) (by kernel_rfl) (by kernel_rfl) (by kernel_rfl) (by exact fun _ _ _ h => h) (Or.inl ⟨by rfl, fun w9 hS9 => ?hy90⟩) hHeld ?rest90
                case hy90 =>
                  dsimp only at hS9
                  obtain ⟨z0, z1, z2, z3, z4, z5⟩ := hS9
                  go_simp
                  try with_reducible rfl
                try simp only [Act.put, List.setIfInBounds_toArray, List.set_cons_zero, List.set_cons_succ]
                refine wpAnyH_take (i := 11) (v := ?v91) (by simp only [List.getElem?_toArray, List.getElem?_cons_succ, List.getElem?_cons_zero]; rfl) (by kernel_rfl) (by kernel_rfl) (by kernel_rfl) (by exact fun _ _ _ h => h) (Or.inl ⟨by rfl, fun w9 hS9 => ?hy91⟩) hHeld ?rest91
                case hy91 =>
                  dsimp only at hS9
                  obtain ⟨z0, z1, z2, z3, z4, z5⟩ := hS9
                  go_simp
                  try with_reducible rfl
                try simp only [Act.put, List.setIfInBounds_toArray, List.set_cons_zero, List.set_cons_succ]
                refine wpAnyH_take (i := 12) (v := ?v92) (by simp only [List.getElem?_toArray, List.getElem?_cons_succ, List.getElem?_cons_zero]; rfl) (by kernel_rfl) (by kernel_rfl) (by kernel_rfl) (by exact fun _ _ _ h => h) (Or.inl ⟨by rfl, fun w9 hS9 => ?hy92⟩) hHeld ?rest92
                case hy92 =>
                  dsimp only at hS9
                  obtain ⟨z0, z1, z2, z3, z4, z5⟩ := hS9
                  go_simp
                  try with_reducible rfl
                try simp only [Act.put, List.setIfInBounds_toArray, List.set_cons_zero, List.set_cons_succ]
                refine wpAnyH_take (i := 13) (v := ?v93) (by simp only [List.getElem?_toArray, List.getElem?_cons_succ, List.getElem?_cons_zero]; rfl) (by kernel_rfl) (by kernel_rfl) (by kernel_rfl) (by exact fun _ _ _ h => h) (Or.inl ⟨by rfl, fun w9 hS9 => ?hy93⟩) hHeld ?rest93
                case hy93 =>
                  dsimp only at hS9
                  obtain ⟨z0, z1, z2, z3, z4, z5⟩ := hS9
                  go_simp
                  try with_reducible rfl
                try simp only [Act.put, List.setIfInBounds_toArray, List.set_cons_zero, List.set_cons_succ]
                refine wpAnyH_take (i := 14) (v := ?v94) (by simp only [List.getElem?_toArray, List.getElem?_cons_succ, List.getElem?_cons_zero]; rfl) (by kernel_rfl) (by kernel_rfl) (by kernel_rfl) (by exact fun _ _ _ h => h) (Or.inl ⟨by rfl, fun w9 hS9 => ?hy94⟩) hHeld ?rest94
                case hy94 =>
                  dsimp only at hS9
                  obtain ⟨z0, z1, z2, z3, z4, z5⟩ := hS9
                  go_simp
                  try with_reducible rfl
                try simp only [Act.put, List.setIfInBounds_toArray, List.set_cons_zero, List.set_cons_succ]
                refine wpAnyH_take (i := 15) (v := ?v95) (by simp only [List.getElem?_toArray, List.getElem?_cons_succ, List.getElem?_cons_zero]; rfl) (by kernel_rfl) (by kernel_rfl) (by kernel_rfl) (by exact fun _ _ _ h => h) (Or.inl ⟨by rfl, fun w9 hS9 => ?hy95⟩) hHeld ?rest95
                case hy95 =>
                  dsimp only at hS9
                  obtain ⟨z0, z1, z2, z3, z4, z5⟩ := hS9
                  go_simp
                  try with_reducible rfl
                try simp only [Act.put, List.setIfInBounds_toArray, List.set_cons_zero, List.set_cons_succ]
                refine wpAnyH_take (i := 16) (v := ?v96) (by simp only [List.getElem?_toArray, List.getElem?_cons_succ, List.getElem?_cons_zero]; rfl) (by kernel_rfl) (by kernel_rfl) (by kernel_rfl) (by exact fun _ _ _ h => h) (Or.inl ⟨by rfl, fun w9 hS9 => ?hy96⟩) hHeld ?rest96
                case hy96 =>
                  dsimp only at hS9
                  obtain ⟨z0, z1, z2, z3, z4, z5⟩ := hS9
                  go_simp
                  try with_reducible rfl
                try simp only [Act.put, List.setIfInBounds_toArray, List.set_cons_zero, List.set_cons_succ]
                refine wpAnyH_take (i := 17) (v := ?v97) (by simp only [List.getElem?_toArray, List.getElem?_cons_succ, List.getElem?_cons_zero]; rfl) (by kernel_rfl) (by kernel_rfl) (by kernel_rfl) (by exact fun _ _ _ h => h) (Or.inl ⟨by rfl, fun w9 hS9 => ?hy97⟩) hHeld ?rest97
                case hy97 =>
                  dsimp only at hS9
                  obtain ⟨z0, z1, z2, z3, z4, z5⟩ := hS9
                  go_simp
                  try with_reducible rfl
                try simp only [Act.put, List.setIfInBounds_toArray, List.set_cons_zero, List.set_cons_succ]
                refine wpAnyH_take (i := 18) (v := ?v98) (by simp only [List.getElem?_toArray, List.getElem?_cons_succ, List.getElem?_cons_zero]; rfl) (by kernel_rfl) (by kernel_rfl) (by kernel_rfl) (by exact fun _ _ _ h => h) (Or.inl ⟨by rfl, fun w9 hS9 => ?hy98⟩) hHeld ?rest98
                case hy98 =>
                  dsimp only at hS9
                  obtain ⟨z0, z1, z2, z3, z4, z5⟩ := hS9
                  go_simp
                  try with_reducible rfl
                try simp only [Act.put, List.setIfInBounds_toArray, List.set_cons_zero, List.set_cons_succ]
                refine wpAnyH_take (i := 19) (v := ?v99) (by simp only [List.getElem?_toArray, List.getElem?_cons_succ, List.getElem?_cons_zero]; rfl) (by kernel_rfl) (by kernel_rfl) (by kernel_rfl) (by exact fun _ _ _ h => h) (Or.inl ⟨by rfl, fun w9 hS9 => ?hy99⟩) hHeld ?rest99
                case hy99 =>
                  dsimp only at hS9
                  obtain ⟨z0, z1, z2, z3, z4, z5⟩ := hS9
                  go_simp
                  try with_reducible rfl
                try simp only [Act.put, List.setIfInBounds_toArray, List.set_cons_zero, List.set_cons_succ]
                refine wpAnyH_take (i := 20) (v := ?v100) (by simp only [List.getElem?_toArray, List.getElem?_cons_succ, List.getElem?_cons_zero]; rfl) (by kernel_rfl) (by kernel_rfl) (by kernel_rfl) (by exact fun _ _ _ h => h) (Or.inl ⟨by rfl, fun w9 hS9 => ?hy100⟩) hHeld ?rest100
                case hy100 =>
                  dsimp only at hS9
                  obtain ⟨z0, z1, z2, z3, z4, z5⟩ := hS9
                  go_simp
                  try with_reducible rfl
                try simp only [Act.put, List.setIfInBounds_toArray, List.set_cons_zero, List.set_cons_succ]
                refine wpAnyH_take (i := 21) (v := ?v101) (by simp only [List.getElem?_toArray, List.getElem?_cons_succ, List.getElem?_cons_zero]; rfl) (by kernel_rfl) (by kernel_rfl) (by kernel_rfl) (by exact fun _ _ _ h => h) (Or.inl ⟨by rfl, fun w9 hS9 => ?hy101⟩) hHeld ?rest101
                case hy101 =>
                  dsimp only at hS9
                  obtain ⟨z0, z1, z2, z3, z4, z5⟩ := hS9
                  go_simp
                  try with_reducible rfl
                try simp only [Act.put, List.setIfInBounds_toArray, List.set_cons_zero, List.set_cons_succ]
                refine wpAnyH_take (i := 22) (v := ?v102) (by simp only [List.getElem?_toArray, List.getElem?_cons_succ, List.getElem?_cons_zero]; rfl) (by kernel_rfl) (by kernel_rfl) (by kernel_rfl) (by exact fun _ _ _ h => h) (Or.inl ⟨by rfl, fun w9 hS9 => ?hy102⟩) hHeld ?rest102
                case hy102 =>
                  dsimp only at hS9
                  obtain ⟨z0, z1, z2, z3, z4, z5⟩ := hS9
                  go_simp
                  try with_reducible rfl
                try simp only [Act.put, List.setIfInBounds_toArray, List.set_cons_zero, List.set_cons_succ]
                refine wpAnyH_take (i := 23) (v := ?v103) (by simp only [List.getElem?_toArray, List.getElem?_cons_succ, List.getElem?_cons_zero]; rfl) (by kernel_rfl) (by kernel_rfl) (by kernel_rfl) (by exact fun _ _ _ h => h) (Or.inl ⟨by rfl, fun w9 hS9 => ?hy103⟩) hHeld ?rest103
                case hy103 =>
                  dsimp only at hS9
                  obtain ⟨z0, z1, z2, z3, z4, z5⟩ := hS9
                  go_simp
                  try with_reducible rfl
                try simp only [Act.put, List.setIfInBounds_toArray, List.set_cons_zero, List.set_cons_succ]
                refine wpAnyH_take (i := 24) (v := ?v104) (by simp only [List.getElem?_toArray, List.getElem?_cons_succ, List.getElem?_cons_zero]; rfl) (by kernel_rfl) (by kernel_rfl) (by kernel_rfl) (by exact fun _ _ _ h => h) (Or.inl ⟨by rfl, fun w9 hS9 => ?hy104⟩) hHeld ?rest104
                case hy104 =>
                  dsimp only at hS9
                  obtain ⟨z0, z1, z2, z3, z4, z5⟩ := hS9
                  go_simp
                  try with_reducible rfl
                try simp only [Act.put, List.setIfInBounds_toArray, List.set_cons_zero, List.set_cons_succ]
                refine wpAnyH_done (by kernel_rfl) ?_ _
                go_wp2_with fail
                go_roundw
                case rel => exact ⟨i + 1 + 1, by go_num, by omega, HR.out.trans (HB1.out.mono hsr)⟩
                case measure => simp [intOf]; omega
            · obtain rfl : ml = j := by omega
              go_wp2_with fail
              go_ret
              exact ⟨rfl, HB.out.trans (HR.out.mono HB.out.size)⟩

set_option maxRecDepth 100000 in
theorem lifted (os : Os) (started : os.Started) (H : Type) (enc : TypeId × Value → H) :
    ReturnsInHanded {} Try.checked os 3 .any (Rows.fnMachinesSpec.pre6 enc Try.prog Try.f3 Rows.fnMachinesRow.domain false) (Rows.fnMachinesSpec.post enc Try.prog Try.f3 false true false false) := by
  refine returnsInHanded_of_change (C := Try.checked) own started (by kernel_rfl) Try.func3
    (ChangeSpec.witness6 (enc := enc) (C := Try.checked) false ⟨#[], #[.slice none 0 0], []⟩ 8 (by kernel_rfl) (by kernel_rfl) (by kernel_rfl) (by kernel_rfl)) ?_
  intro W base args ds gs before hval0 hW hcnd _
  have hval : ∀ (j : Nat) t v, Try.f3.params[j]? = some t → args[j]? = some v → Value.okWide Try.prog W .any base t v := hval0
  have hW' := hW
  obtain ⟨p, q, hA0, hV, rfl, hfz, hnd⟩ := hW
  have hA : DataW.TrodAll enc Try.prog W 0 (fun _ => true) true Try.f3.params.toList args.toList ds p := hA0
  rw [Try.params3] at hA hval
  obtain ⟨v0, vs0, d0, ds0, p0, q0, hargs, rfl, rfl, h0, r0⟩ := trodAll_cons hA
  obtain ⟨rfl, rfl, rfl⟩ := trodAll_nil r0
  obtain rfl : args = #[v0] := by cases args; simp_all
  obtain ⟨rfl, rfl⟩ := trodVars_none hV
  have h0k := h0
  have hlt0 : ∀ x ∈ p0, x.block < W.heap.size := fun x hx => by simpa using hW'.lt x (by simp [hx])
  obtain ⟨a0, n0, c0, l0, rfl, K0, F0, R0⟩ := open_nums Try.underlying22 Try.underlying5 byte_cells (hval 0 22 v0 rfl rfl) h0
  clear hA0 hval0
  simp only [List.append_nil] at hW'
  refine (walk a0 n0 c0 l0 W K0 F0 R0).mono fun e W' ⟨he, hb⟩ => ?_
  subst he
  exact ⟨_, rfl, ⟨_, _, _, [], _, [], hW', (trodAll_cons_mk (shut_bool Try.underlying4 _) trodAll_mk0), (trodAll_cons_mk (Below.trod laidOut (by kernel_rfl) (of_decide_eq_true (by kernel_rfl)) h0k hb hlt0) trodAll_mk0), rfl, hb.frame _, fun h => by cases h⟩⟩

theorem over : Rows.fnMachinesRow.holds Try.pinned (OpenSpec.ofChange Rows.fnMachinesSpec) :=
  OpenClaim.holds_of_wide 3 Try.f3 rfl rfl rfl rfl rfl rfl rfl ⟨rfl, rfl, rfl, rfl, rfl⟩ rfl rfl rfl rfl rfl (by kernel_rfl) Try.func3 (by kernel_rfl)
    (of_decide_eq_true (by kernel_rfl)) (by unfold Func.isWrapper; first | (rw [if_pos (by decide +kernel)]; kernel_rfl) | (rw [if_neg (by decide +kernel)]; exact ⟨rfl, rfl⟩))
    (fun os started H enc _ => lifted os started H enc)

theorem proved : Rows.FnMachinesSaid :=
  over
end Go.Proofs.Ytaaogdhkehkamaa.fnMachines
