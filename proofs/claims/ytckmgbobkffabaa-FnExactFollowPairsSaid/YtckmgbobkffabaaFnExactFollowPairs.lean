/- For every two machines: the pairs of states that both reach by the same moves, as in the model. -/
import Derived.Test.YtckmgbobkffabaaMacT
import Derived.Test.YtckmgbobkffabaaRwT
import Derived.Test.YtckmgbobkffabaaFp
import Derived.Test.YtckmgbobkffabaaFpM
import Derived.Test.YtckmgbobkffabaaEqMc
import Derived.Test.YtckmgbobkffabaaOpenM
import Derived.Test.YtckmgbobkffabaaPm
import Derived.Test.YtckmgbobkffabaaAp
import Derived.Test.YtckmgbobkffabaaOpen
import Derived.WalkKit
import Derived.Deep.RegionHeld3
import Derived.ProofKit
import Derived.OpenShut
namespace Go.Proofs.Ytckmgbobkffabaa.fnExactFollowPairs
open Go.ChangeShapes Go.WideShapes Go.ChangeAt Go.RowKit Go.Lib
open Go.ChangeMaps (open_string shut_string)
set_option linter.unusedVariables false

theorem own : ownKnob Try.prog.godebug = none := by kernel_rfl
set_option linter.unusedSimpArgs false

set_option maxHeartbeats 4000000 in
set_option maxRecDepth 100000 in
theorem walk (v0 : Value) (x0 : Mac) (v1 : Value) (x1 : Mac) (w : World) (K0 : MacW w v0 x0) (F0 : x0.wf) (K1 : MacW w v1 x1) (F1 : x1.wf) :
    Calls Try.prog 10 #[v0, v1] w fun e w' => e = .returned (.bool true) ∧ Below w.heap.size w w' := by
  obtain ⟨p90, n90, c90, q90, m90, d90, rfl⟩ := K0.shape
  obtain ⟨p91, n91, c91, q91, m91, d91, rfl⟩ := K1.shape
  by_cases hbig0 : 1048576 < x0.parts
  · obtain ⟨hB9, hX9, hY9, hz9⟩ := two_boxes w #[.int .i64 x0.st, .slice p90 n90 c90, .slice q90 m90 d90] #[.int .i64 x1.st, .slice p91 n91 c91, .slice q91 m91 d91] 44
    have HB := Lib.hid hB9
    have HX0 := Lib.hid hX9
    have HX1 := Lib.hid hY9
    have hs1 : w.heap.size + 2 ≤ (World.alloc (World.alloc w (.cells #[.int .i64 x0.st, .slice p90 n90 c90, .slice q90 m90 d90] 44)) (.cells #[.int .i64 x1.st, .slice p91 n91 c91, .slice q91 m91 d91] 44)).heap.size := by omega
    clear hB9 hX9 hY9 hz9
    go_enter Try.func10, Try.ntmps10
    obtain ⟨ea0, eb0, ec0, -⟩ := three_cells HX0.out
    obtain ⟨ea1, eb1, ec1, -⟩ := three_cells HX1.out
    go_wp2_with fail
    clear ea0 eb0 ec0 ea1 eb1 ec1
    generalize hgen : (World.alloc (World.alloc w (.cells #[.int .i64 x0.st, .slice p90 n90 c90, .slice q90 m90 d90] 44)) (.cells #[.int .i64 x1.st, .slice p91 n91 c91, .slice q91 m91 d91] 44)) = w_1 at *
    clear hgen
    refine (szMachine_no (1048576) (K0.same HB.out) (by omega) (by omega) (by omega)).mono ?_
    rintro e w' ⟨rfl, hb⟩
    have HB2 := Lib.hid (HB.out.trans (hb.mono HB.out.size))
    go_wp2_with fail
    go_ret
    exact ⟨rfl, HB2.out⟩
  by_cases hbig1 : 1048576 < x0.parts + x1.parts
  · obtain ⟨hB9, hX9, hY9, hz9⟩ := two_boxes w #[.int .i64 x0.st, .slice p90 n90 c90, .slice q90 m90 d90] #[.int .i64 x1.st, .slice p91 n91 c91, .slice q91 m91 d91] 44
    have HB := Lib.hid hB9
    have HX0 := Lib.hid hX9
    have HX1 := Lib.hid hY9
    have hs1 : w.heap.size + 2 ≤ (World.alloc (World.alloc w (.cells #[.int .i64 x0.st, .slice p90 n90 c90, .slice q90 m90 d90] 44)) (.cells #[.int .i64 x1.st, .slice p91 n91 c91, .slice q91 m91 d91] 44)).heap.size := by omega
    clear hB9 hX9 hY9 hz9
    go_enter Try.func10, Try.ntmps10
    obtain ⟨ea0, eb0, ec0, -⟩ := three_cells HX0.out
    obtain ⟨ea1, eb1, ec1, -⟩ := three_cells HX1.out
    go_wp2_with fail
    clear ea0 eb0 ec0 ea1 eb1 ec1
    generalize hgen : (World.alloc (World.alloc w (.cells #[.int .i64 x0.st, .slice p90 n90 c90, .slice q90 m90 d90] 44)) (.cells #[.int .i64 x1.st, .slice p91 n91 c91, .slice q91 m91 d91] 44)) = w_1 at *
    clear hgen
    refine (szMachine_yes (1048576) (K0.same HB.out) (by omega) (by omega)).mono ?_
    rintro e w_p0 ⟨rfl, hb⟩
    have hsp0 : w_1.heap.size ≤ w_p0.heap.size := hb.size
    replace HX0 := Lib.hid (((hb).block _ (by omega)).trans HX0.out)
    replace HX1 := Lib.hid (((hb).block _ (by omega)).trans HX1.out)
    replace HB := Lib.hid (HB.out.trans (hb.mono HB.out.size))
    clear hb
    obtain ⟨ea0, eb0, ec0, -⟩ := three_cells HX0.out
    obtain ⟨ea1, eb1, ec1, -⟩ := three_cells HX1.out
    go_wp2_with fail
    clear ea0 eb0 ec0 ea1 eb1 ec1
    refine (szMachine_no (1048576 - x0.parts) (K1.same HB.out) (by omega) (by omega) (by omega)).mono ?_
    rintro e w' ⟨rfl, hb⟩
    have HB2 := Lib.hid (HB.out.trans (hb.mono HB.out.size))
    go_wp2_with fail
    go_ret
    exact ⟨rfl, HB2.out⟩
  have HK0 := Lib.hid K0
  have HF0 := Lib.hid F0
  have hn0 : x0.parts ≤ 1048576 := by omega
  have hmn0 : x0.many ≤ 4194304 := by unfold Mac.many; unfold Mac.parts at hn0; omega
  have hmv0 : x0.moves.length ≤ 1048576 := by unfold Mac.parts at hn0; omega
  have hdm0 := dualM_many x0
  have hdp0 := dualM_parts x0
  have HK1 := Lib.hid K1
  have HF1 := Lib.hid F1
  have hn1 : x1.parts ≤ 1048576 := by omega
  have hmn1 : x1.many ≤ 4194304 := by unfold Mac.many; unfold Mac.parts at hn1; omega
  have hmv1 : x1.moves.length ≤ 1048576 := by unfold Mac.parts at hn1; omega
  have hdm1 := dualM_many x1
  have hdp1 := dualM_parts x1
  clear K0 F0 K1 F1
  obtain ⟨hB9, hX9, hY9, hz9⟩ := two_boxes w #[.int .i64 x0.st, .slice p90 n90 c90, .slice q90 m90 d90] #[.int .i64 x1.st, .slice p91 n91 c91, .slice q91 m91 d91] 44
  have HB := Lib.hid hB9
  have HX0 := Lib.hid hX9
  have HX1 := Lib.hid hY9
  have hs1 : w.heap.size + 2 ≤ (World.alloc (World.alloc w (.cells #[.int .i64 x0.st, .slice p90 n90 c90, .slice q90 m90 d90] 44)) (.cells #[.int .i64 x1.st, .slice p91 n91 c91, .slice q91 m91 d91] 44)).heap.size := by omega
  clear hB9 hX9 hY9 hz9
  go_enter Try.func10, Try.ntmps10
  obtain ⟨ea0, eb0, ec0, -⟩ := three_cells HX0.out
  obtain ⟨ea1, eb1, ec1, -⟩ := three_cells HX1.out
  go_wp2_with fail
  clear ea0 eb0 ec0 ea1 eb1 ec1
  generalize hgen : (World.alloc (World.alloc w (.cells #[.int .i64 x0.st, .slice p90 n90 c90, .slice q90 m90 d90] 44)) (.cells #[.int .i64 x1.st, .slice p91 n91 c91, .slice q91 m91 d91] 44)) = w_1 at *
  clear hgen
  refine (szMachine_yes (1048576) (HK0.out.same HB.out) (by omega) (by omega)).mono ?_
  rintro e w_2 ⟨rfl, hb⟩
  have hs2 : w_1.heap.size ≤ w_2.heap.size := hb.size
  replace HX0 := Lib.hid (((hb).block _ (by omega)).trans HX0.out)
  replace HX1 := Lib.hid (((hb).block _ (by omega)).trans HX1.out)
  replace HB := Lib.hid (HB.out.trans (hb.mono HB.out.size))
  clear hb
  obtain ⟨ea0, eb0, ec0, -⟩ := three_cells HX0.out
  obtain ⟨ea1, eb1, ec1, -⟩ := three_cells HX1.out
  go_wp2_with fail
  clear ea0 eb0 ec0 ea1 eb1 ec1
  refine (szMachine_yes (1048576 - x0.parts) (HK1.out.same HB.out) (by omega) (by omega)).mono ?_
  rintro e w_3 ⟨rfl, hb⟩
  have hs3 : w_2.heap.size ≤ w_3.heap.size := hb.size
  replace HX0 := Lib.hid (((hb).block _ (by omega)).trans HX0.out)
  replace HX1 := Lib.hid (((hb).block _ (by omega)).trans HX1.out)
  replace HB := Lib.hid (HB.out.trans (hb.mono HB.out.size))
  clear hb
  obtain ⟨ea0, eb0, ec0, -⟩ := three_cells HX0.out
  obtain ⟨ea1, eb1, ec1, -⟩ := three_cells HX1.out
  go_wp2_with fail
  clear ea0 eb0 ec0 ea1 eb1 ec1
  have CX0 := Lib.hid (three_cells HX0.out)
  have CX1 := Lib.hid (three_cells HX1.out)
  have HBd : Hid (Below w_3.heap.size w_3 w_3.drew) := Lib.hid (Below.refl _ _).drew
  refine wp_region_held_drew (S := fun w9 => w9.cell? ⟨w.heap.size, 0, none⟩ = some (.int .i64 x0.st) ∧ w9.cell? ⟨w.heap.size, 1, none⟩ = some (.slice p90 n90 c90) ∧ w9.cell? ⟨w.heap.size, 2, none⟩ = some (.slice q90 m90 d90) ∧ w9.cell? ⟨w.heap.size + 1, 0, none⟩ = some (.int .i64 x1.st) ∧ w9.cell? ⟨w.heap.size + 1, 1, none⟩ = some (.slice p91 n91 c91) ∧ w9.cell? ⟨w.heap.size + 1, 2, none⟩ = some (.slice q91 m91 d91)) (by kernel_rfl) ⟨cell_stay CX0.out.1 HBd.out, cell_stay CX0.out.2.1 HBd.out, cell_stay CX0.out.2.2.1 HBd.out, cell_stay CX1.out.1 HBd.out, cell_stay CX1.out.2.1 HBd.out, cell_stay CX1.out.2.2.1 HBd.out⟩ (fun hHeld => ?_)
  refine wpAnyH_take (i := 0) (v := ?v1) (by simp only [List.getElem?_toArray, List.getElem?_cons_succ, List.getElem?_cons_zero]; rfl) (by kernel_rfl) (by kernel_rfl) (by kernel_rfl) (by exact fun _ _ _ h => h) (Or.inl ⟨by rfl, fun w9 hS9 => ?hy1⟩) hHeld ?rest1
  case hy1 =>
    dsimp only at hS9
    obtain ⟨z0, z1, z2, z3, z4, z5⟩ := hS9
    go_simp
    try with_reducible rfl
  try simp only [Act.put, List.setIfInBounds_toArray, List.set_cons_zero, List.set_cons_succ]
  refine wpAnyH_take (i := 2) (v := ?v2) (by simp only [List.getElem?_toArray, List.getElem?_cons_succ, List.getElem?_cons_zero]; rfl) (by kernel_rfl) (by kernel_rfl) (by kernel_rfl) (by exact fun _ _ _ h => h) (Or.inl ⟨by rfl, fun w9 hS9 => ?hy2⟩) hHeld ?rest2
  case hy2 =>
    dsimp only at hS9
    obtain ⟨z0, z1, z2, z3, z4, z5⟩ := hS9
    go_simp
    try with_reducible rfl
  try simp only [Act.put, List.setIfInBounds_toArray, List.set_cons_zero, List.set_cons_succ]
  refine wpAnyH_ready (rs := [1]) (by kernel_rfl) (by simp) (AllReadyH.cons (by simp only [List.getElem?_toArray, List.getElem?_cons_succ, List.getElem?_cons_zero]; rfl) (fun K hK => ?_) AllReadyH.nil)
  go_simp
  refine (toMachine_any ((HK0.out.same HB.out).same HBd.out) (by omega)).mono ?_
  rintro e w1 ⟨b8, rfl, ho1, hb1⟩
  have HB1 : Hid (Below w_3.heap.size w_3 w1) := Lib.hid (HBd.out.trans (hb1.mono HBd.out.size))
  have HO8 := Lib.hid ho1.mac
  clear ho1
  clear hb1
  go_wp2_with fail
  refine hK.out _ _ ⟨cell_stay CX0.out.1 HB1.out, cell_stay CX0.out.2.1 HB1.out, cell_stay CX0.out.2.2.1 HB1.out, cell_stay CX1.out.1 HB1.out, cell_stay CX1.out.2.1 HB1.out, cell_stay CX1.out.2.2.1 HB1.out⟩ (fun hHeld => ?_)
  clear hK K
  try simp only [Act.put, List.setIfInBounds_toArray, List.set_cons_zero, List.set_cons_succ]
  refine wpAnyH_ready (rs := [3]) (by kernel_rfl) (by simp) (AllReadyH.cons (by simp only [List.getElem?_toArray, List.getElem?_cons_succ, List.getElem?_cons_zero]; rfl) (fun K hK => ?_) AllReadyH.nil)
  go_simp
  refine (toMachine_any ((HK1.out.same HB.out).same HB1.out) (by omega)).mono ?_
  rintro e w2 ⟨b9, rfl, ho2, hb2⟩
  have HB2 : Hid (Below w_3.heap.size w_3 w2) := Lib.hid (HB1.out.trans (hb2.mono HB1.out.size))
  have HO9 := Lib.hid ho2.mac
  replace HO8 := Lib.hid (HO8.out.same hb2)
  clear ho2
  clear hb2
  go_wp2_with fail
  refine hK.out _ _ ⟨cell_stay CX0.out.1 HB2.out, cell_stay CX0.out.2.1 HB2.out, cell_stay CX0.out.2.2.1 HB2.out, cell_stay CX1.out.1 HB2.out, cell_stay CX1.out.2.1 HB2.out, cell_stay CX1.out.2.2.1 HB2.out⟩ (fun hHeld => ?_)
  clear hK K
  try simp only [Act.put, List.setIfInBounds_toArray, List.set_cons_zero, List.set_cons_succ]
  refine wpAnyH_ready (rs := [4]) (by kernel_rfl) (by simp) (AllReadyH.cons (by simp only [List.getElem?_toArray, List.getElem?_cons_succ, List.getElem?_cons_zero]; rfl) (fun K hK => ?_) AllReadyH.nil)
  go_simp
  refine (specFollowPairs_any HO8.out HO9.out (by omega) (by omega)).mono ?_
  rintro e w3 ⟨b0, m0, d0, rfl, ho3, hb3⟩
  have HB3 : Hid (Below w_3.heap.size w_3 w3) := Lib.hid (HB2.out.trans (hb3.mono HB2.out.size))
  have hm0 : m0 ≤ 1000000000 := by have hl := ho3.count; have := followP_len x0 x1; omega
  have HO0 := Lib.hid (ho3.lower HB2.out.size)
  clear ho3
  clear hb3
  go_wp2_with fail
  refine hK.out _ _ ⟨cell_stay CX0.out.1 HB3.out, cell_stay CX0.out.2.1 HB3.out, cell_stay CX0.out.2.2.1 HB3.out, cell_stay CX1.out.1 HB3.out, cell_stay CX1.out.2.1 HB3.out, cell_stay CX1.out.2.2.1 HB3.out⟩ (fun hHeld => ?_)
  clear hK K
  try simp only [Act.put, List.setIfInBounds_toArray, List.set_cons_zero, List.set_cons_succ]
  refine wpAnyH_take (i := 5) (v := ?v3) (by simp only [List.getElem?_toArray, List.getElem?_cons_succ, List.getElem?_cons_zero]; rfl) (by kernel_rfl) (by kernel_rfl) (by kernel_rfl) (by exact fun _ _ _ h => h) (Or.inl ⟨by rfl, fun w9 hS9 => ?hy3⟩) hHeld ?rest3
  case hy3 =>
    dsimp only at hS9
    obtain ⟨z0, z1, z2, z3, z4, z5⟩ := hS9
    go_simp
    try with_reducible rfl
  try simp only [Act.put, List.setIfInBounds_toArray, List.set_cons_zero, List.set_cons_succ]
  refine wpAnyH_done (by kernel_rfl) ?_ _
  obtain ⟨w_4, hwv⟩ : ∃ u, u = w3 := ⟨w3, rfl⟩
  subst hwv
  have hs4 : w_3.heap.size ≤ w_4.heap.size := HB3.out.size
  replace HX0 := Lib.hid (((HB3.out).block _ (by omega)).trans HX0.out)
  replace HX1 := Lib.hid (((HB3.out).block _ (by omega)).trans HX1.out)
  replace HB := Lib.hid (HB.out.trans (HB3.out.mono HB.out.size))
  clear CX0 CX1
  obtain ⟨ea0, eb0, ec0, -⟩ := three_cells HX0.out
  obtain ⟨ea1, eb1, ec1, -⟩ := three_cells HX1.out
  go_wp2_with fail
  clear ea0 eb0 ec0 ea1 eb1 ec1
  refine (toMachine_any (HK0.out.same HB.out) (by omega)).mono ?_
  rintro e w_5 ⟨b1, rfl, ho, hb⟩
  have hs5 : w_4.heap.size ≤ w_5.heap.size := hb.size
  have HO1 := Lib.hid ho
  replace HO0 := Lib.hid (HO0.out.same hb)
  replace HX0 := Lib.hid (((hb).block _ (by omega)).trans HX0.out)
  replace HX1 := Lib.hid (((hb).block _ (by omega)).trans HX1.out)
  replace HB := Lib.hid (HB.out.trans (hb.mono HB.out.size))
  clear ho hb
  obtain ⟨p1, n1, c1, q1, m1, d1, rfl⟩ := HO1.out.shape
  have HAL := Lib.hid (alloc_same w_5 (.cells #[.int .i64 x0.st, .slice p1 n1 c1, .slice q1 m1 d1] 27))
  have HX101 := Lib.hid (heap_alloc_new w_5 (.cells #[.int .i64 x0.st, .slice p1 n1 c1, .slice q1 m1 d1] 27 (0, 0)))
  change Hid ((World.alloc w_5 (.cells #[.int .i64 x0.st, .slice p1 n1 c1, .slice q1 m1 d1] 27)).heap[w_5.heap.size]? = _) at HX101
  replace HO0 := Lib.hid (HO0.out.same HAL.out)
  replace HO1 := Lib.hid (HO1.out.same HAL.out)
  replace HX0 := Lib.hid ((HAL.out.block _ (by omega)).trans HX0.out)
  replace HX1 := Lib.hid ((HAL.out.block _ (by omega)).trans HX1.out)
  replace HB := Lib.hid (HB.out.trans (HAL.out.mono HB.out.size))
  have hs6 : w_5.heap.size < (World.alloc w_5 (.cells #[.int .i64 x0.st, .slice p1 n1 c1, .slice q1 m1 d1] 27)).heap.size := by simp
  obtain ⟨ea0, eb0, ec0, -⟩ := three_cells HX0.out
  obtain ⟨ea1, eb1, ec1, -⟩ := three_cells HX1.out
  obtain ⟨ea101, eb101, ec101, -⟩ := three_cells HX101.out
  clear HAL
  go_wp2_with fail
  clear ea0 eb0 ec0 ea1 eb1 ec1 ea101 eb101 ec101
  generalize hgen : World.alloc w_5 (.cells #[.int .i64 x0.st, .slice p1 n1 c1, .slice q1 m1 d1] 27) = w_6 at *
  clear hgen
  refine (toMachine_any (HK1.out.same HB.out) (by omega)).mono ?_
  rintro e w_7 ⟨b2, rfl, ho, hb⟩
  have hs7 : w_6.heap.size ≤ w_7.heap.size := hb.size
  have HO2 := Lib.hid ho
  replace HO0 := Lib.hid (HO0.out.same hb)
  replace HO1 := Lib.hid (HO1.out.same hb)
  replace HX0 := Lib.hid (((hb).block _ (by omega)).trans HX0.out)
  replace HX1 := Lib.hid (((hb).block _ (by omega)).trans HX1.out)
  replace HX101 := Lib.hid (((hb).block _ (by omega)).trans HX101.out)
  replace HB := Lib.hid (HB.out.trans (hb.mono HB.out.size))
  clear ho hb
  obtain ⟨p2, n2, c2, q2, m2, d2, rfl⟩ := HO2.out.shape
  have HAL := Lib.hid (alloc_same w_7 (.cells #[.int .i64 x1.st, .slice p2 n2 c2, .slice q2 m2 d2] 27))
  have HX102 := Lib.hid (heap_alloc_new w_7 (.cells #[.int .i64 x1.st, .slice p2 n2 c2, .slice q2 m2 d2] 27 (0, 0)))
  change Hid ((World.alloc w_7 (.cells #[.int .i64 x1.st, .slice p2 n2 c2, .slice q2 m2 d2] 27)).heap[w_7.heap.size]? = _) at HX102
  replace HO0 := Lib.hid (HO0.out.same HAL.out)
  replace HO1 := Lib.hid (HO1.out.same HAL.out)
  replace HO2 := Lib.hid (HO2.out.same HAL.out)
  replace HX0 := Lib.hid ((HAL.out.block _ (by omega)).trans HX0.out)
  replace HX1 := Lib.hid ((HAL.out.block _ (by omega)).trans HX1.out)
  replace HX101 := Lib.hid ((HAL.out.block _ (by omega)).trans HX101.out)
  replace HB := Lib.hid (HB.out.trans (HAL.out.mono HB.out.size))
  have hs8 : w_7.heap.size < (World.alloc w_7 (.cells #[.int .i64 x1.st, .slice p2 n2 c2, .slice q2 m2 d2] 27)).heap.size := by simp
  obtain ⟨ea0, eb0, ec0, -⟩ := three_cells HX0.out
  obtain ⟨ea1, eb1, ec1, -⟩ := three_cells HX1.out
  obtain ⟨ea101, eb101, ec101, -⟩ := three_cells HX101.out
  obtain ⟨ea102, eb102, ec102, -⟩ := three_cells HX102.out
  clear HAL
  go_wp2_with fail
  clear ea0 eb0 ec0 ea1 eb1 ec1 ea101 eb101 ec101 ea102 eb102 ec102
  generalize hgen : World.alloc w_7 (.cells #[.int .i64 x1.st, .slice p2 n2 c2, .slice q2 m2 d2] 27) = w_8 at *
  clear hgen
  refine (followPairs_any HO1.out.mac HO2.out.mac (fun z hz => (HF0.out.2 z hz).2) (fun z hz => (HF1.out.2 z hz).2) (by omega) (by omega)).mono ?_
  rintro e w_9 ⟨b3, m3, d3, rfl, ho, hb⟩
  have hs9 : w_8.heap.size ≤ w_9.heap.size := hb.size
  have hm3 : m3 ≤ 1000000000 := by have hl := ho.count; have := followP_len x0 x1; omega
  have HO3 := Lib.hid ho
  replace HO0 := Lib.hid (HO0.out.same hb)
  replace HO1 := Lib.hid (HO1.out.same hb)
  replace HO2 := Lib.hid (HO2.out.same hb)
  replace HX0 := Lib.hid (((hb).block _ (by omega)).trans HX0.out)
  replace HX1 := Lib.hid (((hb).block _ (by omega)).trans HX1.out)
  replace HX101 := Lib.hid (((hb).block _ (by omega)).trans HX101.out)
  replace HX102 := Lib.hid (((hb).block _ (by omega)).trans HX102.out)
  replace HB := Lib.hid (HB.out.trans (hb.mono HB.out.size))
  clear ho hb
  obtain ⟨ea0, eb0, ec0, -⟩ := three_cells HX0.out
  obtain ⟨ea1, eb1, ec1, -⟩ := three_cells HX1.out
  obtain ⟨ea101, eb101, ec101, -⟩ := three_cells HX101.out
  obtain ⟨ea102, eb102, ec102, -⟩ := three_cells HX102.out
  go_wp2_with fail
  clear ea0 eb0 ec0 ea1 eb1 ec1 ea101 eb101 ec101 ea102 eb102 ec102
  refine (eqIntSS_yes HO3.out HO0.out).mono ?_
  rintro e w_10 ⟨rfl, hb⟩
  have hs10 : w_9.heap.size ≤ w_10.heap.size := hb.size
  replace HO0 := Lib.hid (HO0.out.same hb)
  replace HO1 := Lib.hid (HO1.out.same hb)
  replace HO2 := Lib.hid (HO2.out.same hb)
  replace HO3 := Lib.hid (HO3.out.same hb)
  replace HX0 := Lib.hid (((hb).block _ (by omega)).trans HX0.out)
  replace HX1 := Lib.hid (((hb).block _ (by omega)).trans HX1.out)
  replace HX101 := Lib.hid (((hb).block _ (by omega)).trans HX101.out)
  replace HX102 := Lib.hid (((hb).block _ (by omega)).trans HX102.out)
  replace HB := Lib.hid (HB.out.trans (hb.mono HB.out.size))
  clear hb
  obtain ⟨ea0, eb0, ec0, -⟩ := three_cells HX0.out
  obtain ⟨ea1, eb1, ec1, -⟩ := three_cells HX1.out
  obtain ⟨ea101, eb101, ec101, -⟩ := three_cells HX101.out
  obtain ⟨ea102, eb102, ec102, -⟩ := three_cells HX102.out
  go_wp2_with fail
  clear ea0 eb0 ec0 ea1 eb1 ec1 ea101 eb101 ec101 ea102 eb102 ec102
  have CX101 := Lib.hid (three_cells HX101.out)
  have CX0 := Lib.hid (three_cells HX0.out)
  have HBd : Hid (Below w_10.heap.size w_10 w_10.drew) := Lib.hid (Below.refl _ _).drew
  refine wp_region_held_drew (S := fun w9 => w9.cell? ⟨w_5.heap.size, 0, none⟩ = some (.int .i64 x0.st) ∧ w9.cell? ⟨w_5.heap.size, 1, none⟩ = some (.slice p1 n1 c1) ∧ w9.cell? ⟨w_5.heap.size, 2, none⟩ = some (.slice q1 m1 d1) ∧ w9.cell? ⟨w.heap.size, 0, none⟩ = some (.int .i64 x0.st) ∧ w9.cell? ⟨w.heap.size, 1, none⟩ = some (.slice p90 n90 c90) ∧ w9.cell? ⟨w.heap.size, 2, none⟩ = some (.slice q90 m90 d90)) (by kernel_rfl) ⟨cell_stay CX101.out.1 HBd.out, cell_stay CX101.out.2.1 HBd.out, cell_stay CX101.out.2.2.1 HBd.out, cell_stay CX0.out.1 HBd.out, cell_stay CX0.out.2.1 HBd.out, cell_stay CX0.out.2.2.1 HBd.out⟩ (fun hHeld => ?_)
  refine wpAnyH_take (i := 0) (v := ?v4) (by simp only [List.getElem?_toArray, List.getElem?_cons_succ, List.getElem?_cons_zero]; rfl) (by kernel_rfl) (by kernel_rfl) (by kernel_rfl) (by exact fun _ _ _ h => h) (Or.inl ⟨by rfl, fun w9 hS9 => ?hy4⟩) hHeld ?rest4
  case hy4 =>
    dsimp only at hS9
    obtain ⟨z0, z1, z2, z3, z4, z5⟩ := hS9
    go_simp
    try with_reducible rfl
  try simp only [Act.put, List.setIfInBounds_toArray, List.set_cons_zero, List.set_cons_succ]
  refine wpAnyH_take (i := 1) (v := ?v5) (by simp only [List.getElem?_toArray, List.getElem?_cons_succ, List.getElem?_cons_zero]; rfl) (by kernel_rfl) (by kernel_rfl) (by kernel_rfl) (by exact fun _ _ _ h => h) (Or.inl ⟨by rfl, fun w9 hS9 => ?hy5⟩) hHeld ?rest5
  case hy5 =>
    dsimp only at hS9
    obtain ⟨z0, z1, z2, z3, z4, z5⟩ := hS9
    go_simp
    try with_reducible rfl
  try simp only [Act.put, List.setIfInBounds_toArray, List.set_cons_zero, List.set_cons_succ]
  refine wpAnyH_ready (rs := [2]) (by kernel_rfl) (by simp) (AllReadyH.cons (by simp only [List.getElem?_toArray, List.getElem?_cons_succ, List.getElem?_cons_zero]; rfl) (fun K hK => ?_) AllReadyH.nil)
  go_simp
  refine (toMachine_any ((HK0.out.same HB.out).same HBd.out) (by omega)).mono ?_
  rintro e w1 ⟨b9, rfl, ho1, hb1⟩
  have HB1 : Hid (Below w_10.heap.size w_10 w1) := Lib.hid (HBd.out.trans (hb1.mono HBd.out.size))
  have HO9 := Lib.hid ho1.mac
  clear ho1
  clear hb1
  go_wp2_with fail
  refine hK.out _ _ ⟨cell_stay CX101.out.1 HB1.out, cell_stay CX101.out.2.1 HB1.out, cell_stay CX101.out.2.2.1 HB1.out, cell_stay CX0.out.1 HB1.out, cell_stay CX0.out.2.1 HB1.out, cell_stay CX0.out.2.2.1 HB1.out⟩ (fun hHeld => ?_)
  clear hK K
  try simp only [Act.put, List.setIfInBounds_toArray, List.set_cons_zero, List.set_cons_succ]
  refine wpAnyH_ready (rs := [3]) (by kernel_rfl) (by simp) (AllReadyH.cons (by simp only [List.getElem?_toArray, List.getElem?_cons_succ, List.getElem?_cons_zero]; rfl) (fun K hK => ?_) AllReadyH.nil)
  go_simp
  refine (eqMachine_yes (HO1.out.mac.same HB1.out) HO9.out).mono ?_
  rintro e w2 ⟨rfl, hb2⟩
  have HB2 : Hid (Below w_10.heap.size w_10 w2) := Lib.hid (HB1.out.trans (hb2.mono HB1.out.size))
  clear hb2
  go_wp2_with fail
  refine hK.out _ _ ⟨cell_stay CX101.out.1 HB2.out, cell_stay CX101.out.2.1 HB2.out, cell_stay CX101.out.2.2.1 HB2.out, cell_stay CX0.out.1 HB2.out, cell_stay CX0.out.2.1 HB2.out, cell_stay CX0.out.2.2.1 HB2.out⟩ (fun hHeld => ?_)
  clear hK K
  try simp only [Act.put, List.setIfInBounds_toArray, List.set_cons_zero, List.set_cons_succ]
  refine wpAnyH_take (i := 4) (v := ?v6) (by simp only [List.getElem?_toArray, List.getElem?_cons_succ, List.getElem?_cons_zero]; rfl) (by kernel_rfl) (by kernel_rfl) (by kernel_rfl) (by exact fun _ _ _ h => h) (Or.inl ⟨by rfl, fun w9 hS9 => ?hy6⟩) hHeld ?rest6
  case hy6 =>
    dsimp only at hS9
    obtain ⟨z0, z1, z2, z3, z4, z5⟩ := hS9
    go_simp
    try with_reducible rfl
  try simp only [Act.put, List.setIfInBounds_toArray, List.set_cons_zero, List.set_cons_succ]
  refine wpAnyH_done (by kernel_rfl) ?_ _
  obtain ⟨w_11, hwv⟩ : ∃ u, u = w2 := ⟨w2, rfl⟩
  subst hwv
  have hs11 : w_10.heap.size ≤ w_11.heap.size := HB2.out.size
  replace HO0 := Lib.hid (HO0.out.same HB2.out)
  replace HO1 := Lib.hid (HO1.out.same HB2.out)
  replace HO2 := Lib.hid (HO2.out.same HB2.out)
  replace HO3 := Lib.hid (HO3.out.same HB2.out)
  replace HX0 := Lib.hid (((HB2.out).block _ (by omega)).trans HX0.out)
  replace HX1 := Lib.hid (((HB2.out).block _ (by omega)).trans HX1.out)
  replace HX101 := Lib.hid (((HB2.out).block _ (by omega)).trans HX101.out)
  replace HX102 := Lib.hid (((HB2.out).block _ (by omega)).trans HX102.out)
  replace HB := Lib.hid (HB.out.trans (HB2.out.mono HB.out.size))
  clear CX101 CX0
  obtain ⟨ea0, eb0, ec0, -⟩ := three_cells HX0.out
  obtain ⟨ea1, eb1, ec1, -⟩ := three_cells HX1.out
  obtain ⟨ea101, eb101, ec101, -⟩ := three_cells HX101.out
  obtain ⟨ea102, eb102, ec102, -⟩ := three_cells HX102.out
  go_wp2_with fail
  clear ea0 eb0 ec0 ea1 eb1 ec1 ea101 eb101 ec101 ea102 eb102 ec102
  have CX102 := Lib.hid (three_cells HX102.out)
  have CX1 := Lib.hid (three_cells HX1.out)
  have HBd : Hid (Below w_11.heap.size w_11 w_11.drew) := Lib.hid (Below.refl _ _).drew
  refine wp_region_held_drew (S := fun w9 => w9.cell? ⟨w_7.heap.size, 0, none⟩ = some (.int .i64 x1.st) ∧ w9.cell? ⟨w_7.heap.size, 1, none⟩ = some (.slice p2 n2 c2) ∧ w9.cell? ⟨w_7.heap.size, 2, none⟩ = some (.slice q2 m2 d2) ∧ w9.cell? ⟨w.heap.size + 1, 0, none⟩ = some (.int .i64 x1.st) ∧ w9.cell? ⟨w.heap.size + 1, 1, none⟩ = some (.slice p91 n91 c91) ∧ w9.cell? ⟨w.heap.size + 1, 2, none⟩ = some (.slice q91 m91 d91)) (by kernel_rfl) ⟨cell_stay CX102.out.1 HBd.out, cell_stay CX102.out.2.1 HBd.out, cell_stay CX102.out.2.2.1 HBd.out, cell_stay CX1.out.1 HBd.out, cell_stay CX1.out.2.1 HBd.out, cell_stay CX1.out.2.2.1 HBd.out⟩ (fun hHeld => ?_)
  refine wpAnyH_take (i := 0) (v := ?v7) (by simp only [List.getElem?_toArray, List.getElem?_cons_succ, List.getElem?_cons_zero]; rfl) (by kernel_rfl) (by kernel_rfl) (by kernel_rfl) (by exact fun _ _ _ h => h) (Or.inl ⟨by rfl, fun w9 hS9 => ?hy7⟩) hHeld ?rest7
  case hy7 =>
    dsimp only at hS9
    obtain ⟨z0, z1, z2, z3, z4, z5⟩ := hS9
    go_simp
    try with_reducible rfl
  try simp only [Act.put, List.setIfInBounds_toArray, List.set_cons_zero, List.set_cons_succ]
  refine wpAnyH_take (i := 1) (v := ?v8) (by simp only [List.getElem?_toArray, List.getElem?_cons_succ, List.getElem?_cons_zero]; rfl) (by kernel_rfl) (by kernel_rfl) (by kernel_rfl) (by exact fun _ _ _ h => h) (Or.inl ⟨by rfl, fun w9 hS9 => ?hy8⟩) hHeld ?rest8
  case hy8 =>
    dsimp only at hS9
    obtain ⟨z0, z1, z2, z3, z4, z5⟩ := hS9
    go_simp
    try with_reducible rfl
  try simp only [Act.put, List.setIfInBounds_toArray, List.set_cons_zero, List.set_cons_succ]
  refine wpAnyH_ready (rs := [2]) (by kernel_rfl) (by simp) (AllReadyH.cons (by simp only [List.getElem?_toArray, List.getElem?_cons_succ, List.getElem?_cons_zero]; rfl) (fun K hK => ?_) AllReadyH.nil)
  go_simp
  refine (toMachine_any ((HK1.out.same HB.out).same HBd.out) (by omega)).mono ?_
  rintro e w1 ⟨b9, rfl, ho1, hb1⟩
  have HB1 : Hid (Below w_11.heap.size w_11 w1) := Lib.hid (HBd.out.trans (hb1.mono HBd.out.size))
  have HO9 := Lib.hid ho1.mac
  clear ho1
  clear hb1
  go_wp2_with fail
  refine hK.out _ _ ⟨cell_stay CX102.out.1 HB1.out, cell_stay CX102.out.2.1 HB1.out, cell_stay CX102.out.2.2.1 HB1.out, cell_stay CX1.out.1 HB1.out, cell_stay CX1.out.2.1 HB1.out, cell_stay CX1.out.2.2.1 HB1.out⟩ (fun hHeld => ?_)
  clear hK K
  try simp only [Act.put, List.setIfInBounds_toArray, List.set_cons_zero, List.set_cons_succ]
  refine wpAnyH_ready (rs := [3]) (by kernel_rfl) (by simp) (AllReadyH.cons (by simp only [List.getElem?_toArray, List.getElem?_cons_succ, List.getElem?_cons_zero]; rfl) (fun K hK => ?_) AllReadyH.nil)
  go_simp
  refine (eqMachine_yes (HO2.out.mac.same HB1.out) HO9.out).mono ?_
  rintro e w2 ⟨rfl, hb2⟩
  have HB2 : Hid (Below w_11.heap.size w_11 w2) := Lib.hid (HB1.out.trans (hb2.mono HB1.out.size))
  clear hb2
  go_wp2_with fail
  refine hK.out _ _ ⟨cell_stay CX102.out.1 HB2.out, cell_stay CX102.out.2.1 HB2.out, cell_stay CX102.out.2.2.1 HB2.out, cell_stay CX1.out.1 HB2.out, cell_stay CX1.out.2.1 HB2.out, cell_stay CX1.out.2.2.1 HB2.out⟩ (fun hHeld => ?_)
  clear hK K
  try simp only [Act.put, List.setIfInBounds_toArray, List.set_cons_zero, List.set_cons_succ]
  refine wpAnyH_take (i := 4) (v := ?v9) (by simp only [List.getElem?_toArray, List.getElem?_cons_succ, List.getElem?_cons_zero]; rfl) (by kernel_rfl) (by kernel_rfl) (by kernel_rfl) (by exact fun _ _ _ h => h) (Or.inl ⟨by rfl, fun w9 hS9 => ?hy9⟩) hHeld ?rest9
  case hy9 =>
    dsimp only at hS9
    obtain ⟨z0, z1, z2, z3, z4, z5⟩ := hS9
    go_simp
    try with_reducible rfl
  try simp only [Act.put, List.setIfInBounds_toArray, List.set_cons_zero, List.set_cons_succ]
  refine wpAnyH_done (by kernel_rfl) ?_ _
  obtain ⟨w_12, hwv⟩ : ∃ u, u = w2 := ⟨w2, rfl⟩
  subst hwv
  have hs12 : w_11.heap.size ≤ w_12.heap.size := HB2.out.size
  replace HO0 := Lib.hid (HO0.out.same HB2.out)
  replace HO1 := Lib.hid (HO1.out.same HB2.out)
  replace HO2 := Lib.hid (HO2.out.same HB2.out)
  replace HO3 := Lib.hid (HO3.out.same HB2.out)
  replace HX0 := Lib.hid (((HB2.out).block _ (by omega)).trans HX0.out)
  replace HX1 := Lib.hid (((HB2.out).block _ (by omega)).trans HX1.out)
  replace HX101 := Lib.hid (((HB2.out).block _ (by omega)).trans HX101.out)
  replace HX102 := Lib.hid (((HB2.out).block _ (by omega)).trans HX102.out)
  replace HB := Lib.hid (HB.out.trans (HB2.out.mono HB.out.size))
  clear CX102 CX1
  obtain ⟨ea0, eb0, ec0, -⟩ := three_cells HX0.out
  obtain ⟨ea1, eb1, ec1, -⟩ := three_cells HX1.out
  obtain ⟨ea101, eb101, ec101, -⟩ := three_cells HX101.out
  obtain ⟨ea102, eb102, ec102, -⟩ := three_cells HX102.out
  go_wp2_with fail
  clear ea0 eb0 ec0 ea1 eb1 ec1 ea101 eb101 ec101 ea102 eb102 ec102
  refine (markMachine_any (k := 1) HO1.out (by omega) (by omega)).mono ?_
  rintro e w_13 ⟨rfl, ho, hg⟩
  have hs13 : w_12.heap.size ≤ w_13.heap.size := hg.size
  replace HO0 := Lib.hid (HO0.out.aside hg (by omega))
  replace HO2 := Lib.hid (HO2.out.aside hg (by omega))
  replace HO3 := Lib.hid (HO3.out.aside hg (by omega))
  replace HX0 := Lib.hid ((hg.block _ (by omega) (by omega)).trans HX0.out)
  replace HX1 := Lib.hid ((hg.block _ (by omega) (by omega)).trans HX1.out)
  replace HX101 := Lib.hid ((hg.block _ (by omega) (by omega)).trans HX101.out)
  replace HX102 := Lib.hid ((hg.block _ (by omega) (by omega)).trans HX102.out)
  replace HO1 := Lib.hid ho
  replace HB := Lib.hid (hg.to HB.out (by omega) HB.out.size)
  clear ho hg
  obtain ⟨ea0, eb0, ec0, -⟩ := three_cells HX0.out
  obtain ⟨ea1, eb1, ec1, -⟩ := three_cells HX1.out
  obtain ⟨ea101, eb101, ec101, -⟩ := three_cells HX101.out
  obtain ⟨ea102, eb102, ec102, -⟩ := three_cells HX102.out
  go_wp2_with fail
  clear ea0 eb0 ec0 ea1 eb1 ec1 ea101 eb101 ec101 ea102 eb102 ec102
  refine (markMachine_any (k := 1 + x0.many) HO2.out (by omega) (by omega)).mono ?_
  rintro e w_14 ⟨rfl, ho, hg⟩
  have hs14 : w_13.heap.size ≤ w_14.heap.size := hg.size
  replace HO0 := Lib.hid (HO0.out.aside hg (by omega))
  replace HO1 := Lib.hid (HO1.out.aside hg (by omega))
  replace HO3 := Lib.hid (HO3.out.aside hg (by omega))
  replace HX0 := Lib.hid ((hg.block _ (by omega) (by omega)).trans HX0.out)
  replace HX1 := Lib.hid ((hg.block _ (by omega) (by omega)).trans HX1.out)
  replace HX101 := Lib.hid ((hg.block _ (by omega) (by omega)).trans HX101.out)
  replace HX102 := Lib.hid ((hg.block _ (by omega) (by omega)).trans HX102.out)
  replace HO2 := Lib.hid ho
  replace HB := Lib.hid (hg.to HB.out (by omega) HB.out.size)
  clear ho hg
  obtain ⟨ea0, eb0, ec0, -⟩ := three_cells HX0.out
  obtain ⟨ea1, eb1, ec1, -⟩ := three_cells HX1.out
  obtain ⟨ea101, eb101, ec101, -⟩ := three_cells HX101.out
  obtain ⟨ea102, eb102, ec102, -⟩ := three_cells HX102.out
  go_wp2_with fail
  clear ea0 eb0 ec0 ea1 eb1 ec1 ea101 eb101 ec101 ea102 eb102 ec102
  refine (eqIntSS_yes HO3.out HO0.out).mono ?_
  rintro e w_15 ⟨rfl, hb⟩
  have hs15 : w_14.heap.size ≤ w_15.heap.size := hb.size
  replace HO0 := Lib.hid (HO0.out.same hb)
  replace HO1 := Lib.hid (HO1.out.same hb)
  replace HO2 := Lib.hid (HO2.out.same hb)
  replace HO3 := Lib.hid (HO3.out.same hb)
  replace HX0 := Lib.hid (((hb).block _ (by omega)).trans HX0.out)
  replace HX1 := Lib.hid (((hb).block _ (by omega)).trans HX1.out)
  replace HX101 := Lib.hid (((hb).block _ (by omega)).trans HX101.out)
  replace HX102 := Lib.hid (((hb).block _ (by omega)).trans HX102.out)
  replace HB := Lib.hid (HB.out.trans (hb.mono HB.out.size))
  clear hb
  obtain ⟨ea0, eb0, ec0, -⟩ := three_cells HX0.out
  obtain ⟨ea1, eb1, ec1, -⟩ := three_cells HX1.out
  obtain ⟨ea101, eb101, ec101, -⟩ := three_cells HX101.out
  obtain ⟨ea102, eb102, ec102, -⟩ := three_cells HX102.out
  go_wp2_with fail
  clear ea0 eb0 ec0 ea1 eb1 ec1 ea101 eb101 ec101 ea102 eb102 ec102
  refine (markIntSS_any (1) HO3.out (by omega) (by omega)).mono ?_
  rintro e w_16 ⟨rfl, ho, hg⟩
  have hs16 : w_15.heap.size ≤ w_16.heap.size := hg.size
  replace HO0 := Lib.hid (HO0.out.aside hg (by omega))
  replace HO1 := Lib.hid (HO1.out.aside hg (by omega))
  replace HO2 := Lib.hid (HO2.out.aside hg (by omega))
  replace HX0 := Lib.hid ((hg.block _ (by omega) (by omega)).trans HX0.out)
  replace HX1 := Lib.hid ((hg.block _ (by omega) (by omega)).trans HX1.out)
  replace HX101 := Lib.hid ((hg.block _ (by omega) (by omega)).trans HX101.out)
  replace HX102 := Lib.hid ((hg.block _ (by omega) (by omega)).trans HX102.out)
  replace HO3 := Lib.hid ho
  replace HB := Lib.hid (hg.to HB.out (by omega) HB.out.size)
  clear ho hg
  obtain ⟨ea0, eb0, ec0, -⟩ := three_cells HX0.out
  obtain ⟨ea1, eb1, ec1, -⟩ := three_cells HX1.out
  obtain ⟨ea101, eb101, ec101, -⟩ := three_cells HX101.out
  obtain ⟨ea102, eb102, ec102, -⟩ := three_cells HX102.out
  go_wp2_with fail
  clear ea0 eb0 ec0 ea1 eb1 ec1 ea101 eb101 ec101 ea102 eb102 ec102
  refine (heldIntSS_any (1) HO3.out (by omega) (by omega)).mono ?_
  rintro e w_17 ⟨rfl, hb⟩
  have hs17 : w_16.heap.size ≤ w_17.heap.size := hb.size
  replace HO0 := Lib.hid (HO0.out.same hb)
  replace HO1 := Lib.hid (HO1.out.same hb)
  replace HO2 := Lib.hid (HO2.out.same hb)
  replace HO3 := Lib.hid (HO3.out.same hb)
  replace HX0 := Lib.hid (((hb).block _ (by omega)).trans HX0.out)
  replace HX1 := Lib.hid (((hb).block _ (by omega)).trans HX1.out)
  replace HX101 := Lib.hid (((hb).block _ (by omega)).trans HX101.out)
  replace HX102 := Lib.hid (((hb).block _ (by omega)).trans HX102.out)
  replace HB := Lib.hid (HB.out.trans (hb.mono HB.out.size))
  clear hb
  obtain ⟨ea0, eb0, ec0, -⟩ := three_cells HX0.out
  obtain ⟨ea1, eb1, ec1, -⟩ := three_cells HX1.out
  obtain ⟨ea101, eb101, ec101, -⟩ := three_cells HX101.out
  obtain ⟨ea102, eb102, ec102, -⟩ := three_cells HX102.out
  go_wp2_with fail
  clear ea0 eb0 ec0 ea1 eb1 ec1 ea101 eb101 ec101 ea102 eb102 ec102
  have CX0 := Lib.hid (three_cells HX0.out)
  have CX1 := Lib.hid (three_cells HX1.out)
  have HBd : Hid (Below w_17.heap.size w_17 w_17.drew) := Lib.hid (Below.refl _ _).drew
  refine wp_region_held_drew (S := fun w9 => w9.cell? ⟨w.heap.size, 0, none⟩ = some (.int .i64 x0.st) ∧ w9.cell? ⟨w.heap.size, 1, none⟩ = some (.slice p90 n90 c90) ∧ w9.cell? ⟨w.heap.size, 2, none⟩ = some (.slice q90 m90 d90) ∧ w9.cell? ⟨w.heap.size + 1, 0, none⟩ = some (.int .i64 x1.st) ∧ w9.cell? ⟨w.heap.size + 1, 1, none⟩ = some (.slice p91 n91 c91) ∧ w9.cell? ⟨w.heap.size + 1, 2, none⟩ = some (.slice q91 m91 d91)) (by kernel_rfl) ⟨cell_stay CX0.out.1 HBd.out, cell_stay CX0.out.2.1 HBd.out, cell_stay CX0.out.2.2.1 HBd.out, cell_stay CX1.out.1 HBd.out, cell_stay CX1.out.2.1 HBd.out, cell_stay CX1.out.2.2.1 HBd.out⟩ (fun hHeld => ?_)
  refine wpAnyH_take (i := 0) (v := ?v10) (by simp only [List.getElem?_toArray, List.getElem?_cons_succ, List.getElem?_cons_zero]; rfl) (by kernel_rfl) (by kernel_rfl) (by kernel_rfl) (by exact fun _ _ _ h => h) (Or.inl ⟨by rfl, fun w9 hS9 => ?hy10⟩) hHeld ?rest10
  case hy10 =>
    dsimp only at hS9
    obtain ⟨z0, z1, z2, z3, z4, z5⟩ := hS9
    go_simp
    try with_reducible rfl
  try simp only [Act.put, List.setIfInBounds_toArray, List.set_cons_zero, List.set_cons_succ]
  refine wpAnyH_take (i := 2) (v := ?v11) (by simp only [List.getElem?_toArray, List.getElem?_cons_succ, List.getElem?_cons_zero]; rfl) (by kernel_rfl) (by kernel_rfl) (by kernel_rfl) (by exact fun _ _ _ h => h) (Or.inl ⟨by rfl, fun w9 hS9 => ?hy11⟩) hHeld ?rest11
  case hy11 =>
    dsimp only at hS9
    obtain ⟨z0, z1, z2, z3, z4, z5⟩ := hS9
    go_simp
    try with_reducible rfl
  try simp only [Act.put, List.setIfInBounds_toArray, List.set_cons_zero, List.set_cons_succ]
  refine wpAnyH_ready (rs := [1]) (by kernel_rfl) (by simp) (AllReadyH.cons (by simp only [List.getElem?_toArray, List.getElem?_cons_succ, List.getElem?_cons_zero]; rfl) (fun K hK => ?_) AllReadyH.nil)
  go_simp
  refine (toMachine_any ((HK0.out.same HB.out).same HBd.out) (by omega)).mono ?_
  rintro e w1 ⟨b8, rfl, ho1, hb1⟩
  have HB1 : Hid (Below w_17.heap.size w_17 w1) := Lib.hid (HBd.out.trans (hb1.mono HBd.out.size))
  have HO8 := Lib.hid ho1.mac
  clear ho1
  clear hb1
  go_wp2_with fail
  refine hK.out _ _ ⟨cell_stay CX0.out.1 HB1.out, cell_stay CX0.out.2.1 HB1.out, cell_stay CX0.out.2.2.1 HB1.out, cell_stay CX1.out.1 HB1.out, cell_stay CX1.out.2.1 HB1.out, cell_stay CX1.out.2.2.1 HB1.out⟩ (fun hHeld => ?_)
  clear hK K
  try simp only [Act.put, List.setIfInBounds_toArray, List.set_cons_zero, List.set_cons_succ]
  refine wpAnyH_ready (rs := [3]) (by kernel_rfl) (by simp) (AllReadyH.cons (by simp only [List.getElem?_toArray, List.getElem?_cons_succ, List.getElem?_cons_zero]; rfl) (fun K hK => ?_) AllReadyH.nil)
  go_simp
  refine (toMachine_any ((HK1.out.same HB.out).same HB1.out) (by omega)).mono ?_
  rintro e w2 ⟨b9, rfl, ho2, hb2⟩
  have HB2 : Hid (Below w_17.heap.size w_17 w2) := Lib.hid (HB1.out.trans (hb2.mono HB1.out.size))
  have HO9 := Lib.hid ho2.mac
  replace HO8 := Lib.hid (HO8.out.same hb2)
  clear ho2
  clear hb2
  go_wp2_with fail
  refine hK.out _ _ ⟨cell_stay CX0.out.1 HB2.out, cell_stay CX0.out.2.1 HB2.out, cell_stay CX0.out.2.2.1 HB2.out, cell_stay CX1.out.1 HB2.out, cell_stay CX1.out.2.1 HB2.out, cell_stay CX1.out.2.2.1 HB2.out⟩ (fun hHeld => ?_)
  clear hK K
  try simp only [Act.put, List.setIfInBounds_toArray, List.set_cons_zero, List.set_cons_succ]
  refine wpAnyH_ready (rs := [4]) (by kernel_rfl) (by simp) (AllReadyH.cons (by simp only [List.getElem?_toArray, List.getElem?_cons_succ, List.getElem?_cons_zero]; rfl) (fun K hK => ?_) AllReadyH.nil)
  go_simp
  refine (followPairs_any HO8.out HO9.out (fun z hz => (HF0.out.2 z hz).2) (fun z hz => (HF1.out.2 z hz).2) (by omega) (by omega)).mono ?_
  rintro e w3 ⟨b4, m4, d4, rfl, ho3, hb3⟩
  have HB3 : Hid (Below w_17.heap.size w_17 w3) := Lib.hid (HB2.out.trans (hb3.mono HB2.out.size))
  have hm4 : m4 ≤ 1000000000 := by have hl := ho3.count; have := followP_len x0 x1; omega
  have HO4 := Lib.hid (ho3.lower HB2.out.size)
  clear ho3
  clear hb3
  go_wp2_with fail
  refine hK.out _ _ ⟨cell_stay CX0.out.1 HB3.out, cell_stay CX0.out.2.1 HB3.out, cell_stay CX0.out.2.2.1 HB3.out, cell_stay CX1.out.1 HB3.out, cell_stay CX1.out.2.1 HB3.out, cell_stay CX1.out.2.2.1 HB3.out⟩ (fun hHeld => ?_)
  clear hK K
  try simp only [Act.put, List.setIfInBounds_toArray, List.set_cons_zero, List.set_cons_succ]
  refine wpAnyH_take (i := 5) (v := ?v12) (by simp only [List.getElem?_toArray, List.getElem?_cons_succ, List.getElem?_cons_zero]; rfl) (by kernel_rfl) (by kernel_rfl) (by kernel_rfl) (by exact fun _ _ _ h => h) (Or.inl ⟨by rfl, fun w9 hS9 => ?hy12⟩) hHeld ?rest12
  case hy12 =>
    dsimp only at hS9
    obtain ⟨z0, z1, z2, z3, z4, z5⟩ := hS9
    go_simp
    try with_reducible rfl
  try simp only [Act.put, List.setIfInBounds_toArray, List.set_cons_zero, List.set_cons_succ]
  refine wpAnyH_done (by kernel_rfl) ?_ _
  obtain ⟨w_18, hwv⟩ : ∃ u, u = w3 := ⟨w3, rfl⟩
  subst hwv
  have hs18 : w_17.heap.size ≤ w_18.heap.size := HB3.out.size
  replace HO0 := Lib.hid (HO0.out.same HB3.out)
  replace HO1 := Lib.hid (HO1.out.same HB3.out)
  replace HO2 := Lib.hid (HO2.out.same HB3.out)
  replace HO3 := Lib.hid (HO3.out.same HB3.out)
  replace HX0 := Lib.hid (((HB3.out).block _ (by omega)).trans HX0.out)
  replace HX1 := Lib.hid (((HB3.out).block _ (by omega)).trans HX1.out)
  replace HX101 := Lib.hid (((HB3.out).block _ (by omega)).trans HX101.out)
  replace HX102 := Lib.hid (((HB3.out).block _ (by omega)).trans HX102.out)
  replace HB := Lib.hid (HB.out.trans (HB3.out.mono HB.out.size))
  clear CX0 CX1
  obtain ⟨ea0, eb0, ec0, -⟩ := three_cells HX0.out
  obtain ⟨ea1, eb1, ec1, -⟩ := three_cells HX1.out
  obtain ⟨ea101, eb101, ec101, -⟩ := three_cells HX101.out
  obtain ⟨ea102, eb102, ec102, -⟩ := three_cells HX102.out
  go_wp2_with fail
  clear ea0 eb0 ec0 ea1 eb1 ec1 ea101 eb101 ec101 ea102 eb102 ec102
  refine (eqIntSS_yes HO4.out HO0.out).mono ?_
  rintro e w_19 ⟨rfl, hb⟩
  have hs19 : w_18.heap.size ≤ w_19.heap.size := hb.size
  replace HO0 := Lib.hid (HO0.out.same hb)
  replace HO1 := Lib.hid (HO1.out.same hb)
  replace HO2 := Lib.hid (HO2.out.same hb)
  replace HO3 := Lib.hid (HO3.out.same hb)
  replace HO4 := Lib.hid (HO4.out.same hb)
  replace HX0 := Lib.hid (((hb).block _ (by omega)).trans HX0.out)
  replace HX1 := Lib.hid (((hb).block _ (by omega)).trans HX1.out)
  replace HX101 := Lib.hid (((hb).block _ (by omega)).trans HX101.out)
  replace HX102 := Lib.hid (((hb).block _ (by omega)).trans HX102.out)
  replace HB := Lib.hid (HB.out.trans (hb.mono HB.out.size))
  clear hb
  obtain ⟨ea0, eb0, ec0, -⟩ := three_cells HX0.out
  obtain ⟨ea1, eb1, ec1, -⟩ := three_cells HX1.out
  obtain ⟨ea101, eb101, ec101, -⟩ := three_cells HX101.out
  obtain ⟨ea102, eb102, ec102, -⟩ := three_cells HX102.out
  go_wp2_with fail
  clear ea0 eb0 ec0 ea1 eb1 ec1 ea101 eb101 ec101 ea102 eb102 ec102
  refine (heldIntSS_any (1) HO3.out (by omega) (by omega)).mono ?_
  rintro e w_20 ⟨rfl, hb⟩
  have hs20 : w_19.heap.size ≤ w_20.heap.size := hb.size
  replace HO0 := Lib.hid (HO0.out.same hb)
  replace HO1 := Lib.hid (HO1.out.same hb)
  replace HO2 := Lib.hid (HO2.out.same hb)
  replace HO3 := Lib.hid (HO3.out.same hb)
  replace HO4 := Lib.hid (HO4.out.same hb)
  replace HX0 := Lib.hid (((hb).block _ (by omega)).trans HX0.out)
  replace HX1 := Lib.hid (((hb).block _ (by omega)).trans HX1.out)
  replace HX101 := Lib.hid (((hb).block _ (by omega)).trans HX101.out)
  replace HX102 := Lib.hid (((hb).block _ (by omega)).trans HX102.out)
  replace HB := Lib.hid (HB.out.trans (hb.mono HB.out.size))
  clear hb
  obtain ⟨ea0, eb0, ec0, -⟩ := three_cells HX0.out
  obtain ⟨ea1, eb1, ec1, -⟩ := three_cells HX1.out
  obtain ⟨ea101, eb101, ec101, -⟩ := three_cells HX101.out
  obtain ⟨ea102, eb102, ec102, -⟩ := three_cells HX102.out
  go_wp2_with fail
  clear ea0 eb0 ec0 ea1 eb1 ec1 ea101 eb101 ec101 ea102 eb102 ec102
  go_ret
  exact ⟨rfl, HB.out⟩

set_option maxRecDepth 100000 in
theorem lifted (os : Os) (started : os.Started) (H : Type) (enc : TypeId × Value → H) :
    ReturnsInHanded {} Try.checked os 10 .any (Rows.fnExactFollowPairsSpec.pre6 enc Try.prog Try.f10 Rows.fnExactFollowPairsRow.domain false) (Rows.fnExactFollowPairsSpec.post enc Try.prog Try.f10 false true false false) := by
  refine returnsInHanded_of_change (C := Try.checked) own started (by kernel_rfl) Try.func10
    (ChangeSpec.witness6 (enc := enc) (C := Try.checked) false ⟨#[], #[.agg #[.int .i64 0, .slice none 0 0, .slice none 0 0], .agg #[.int .i64 0, .slice none 0 0, .slice none 0 0]], []⟩ 8 (by kernel_rfl) (by kernel_rfl) (by kernel_rfl) (by kernel_rfl)) ?_
  intro W base args ds gs before hval0 hW hcnd _
  have hval : ∀ (j : Nat) t v, Try.f10.params[j]? = some t → args[j]? = some v → Value.okWide Try.prog W .any base t v := hval0
  have hW' := hW
  obtain ⟨p, q, hA0, hV, rfl, hfz, hnd⟩ := hW
  have hA : DataW.TrodAll enc Try.prog W 0 (fun _ => true) true Try.f10.params.toList args.toList ds p := hA0
  rw [Try.params10] at hA hval
  obtain ⟨v0, vs0, d0, ds0, p0, q0, hargs, rfl, rfl, h0, r0⟩ := trodAll_cons hA
  obtain ⟨v1, vs1, d1, ds1, p1, q1, rfl, rfl, rfl, h1, r1⟩ := trodAll_cons r0
  obtain ⟨rfl, rfl, rfl⟩ := trodAll_nil r1
  obtain rfl : args = #[v0, v1] := by cases args; simp_all
  obtain ⟨rfl, rfl⟩ := trodVars_none hV
  have h0k := h0
  have hlt0 : ∀ x ∈ p0, x.block < W.heap.size := fun x hx => by simpa using hW'.lt x (by simp [hx])
  obtain ⟨x0, K0, F0⟩ := open_mac Try.underlying44 (by kernel_rfl) (by kernel_rfl) Try.underlying3 Try.underlying24 Try.underlying4 (by kernel_rfl) Try.underlying42 Try.underlying119 (by kernel_rfl) (by kernel_rfl) Try.underlying3 Try.underlying4 Try.underlying3 Try.underlying3 (hval 0 44 v0 rfl rfl) h0
  have h1k := h1
  have hlt1 : ∀ x ∈ p1, x.block < W.heap.size := fun x hx => by simpa using hW'.lt x (by simp [hx])
  obtain ⟨x1, K1, F1⟩ := open_mac Try.underlying44 (by kernel_rfl) (by kernel_rfl) Try.underlying3 Try.underlying24 Try.underlying4 (by kernel_rfl) Try.underlying42 Try.underlying119 (by kernel_rfl) (by kernel_rfl) Try.underlying3 Try.underlying4 Try.underlying3 Try.underlying3 (hval 1 44 v1 rfl rfl) h1
  clear hA0 hval0
  simp only [List.append_nil] at hW'
  refine (walk v0 x0 v1 x1 W K0 F0 K1 F1).mono fun e W' ⟨he, hb⟩ => ?_
  subst he
  exact ⟨_, rfl, ⟨_, _, _, [], _, [], hW', (trodAll_cons_mk (shut_bool Try.underlying4 _) trodAll_mk0), (trodAll_cons_mk (Below.trod laidOut (by kernel_rfl) (of_decide_eq_true (by kernel_rfl)) h0k hb hlt0) (trodAll_cons_mk (Below.trod laidOut (by kernel_rfl) (of_decide_eq_true (by kernel_rfl)) h1k hb hlt1) trodAll_mk0)), rfl, hb.frame _, fun h => by cases h⟩⟩

theorem over : Rows.fnExactFollowPairsRow.holds Try.pinned (OpenSpec.ofChange Rows.fnExactFollowPairsSpec) :=
  OpenClaim.holds_of_wide 10 Try.f10 rfl rfl rfl rfl rfl rfl rfl ⟨rfl, rfl, rfl, rfl, rfl⟩ rfl rfl rfl rfl rfl (by kernel_rfl) Try.func10 (by kernel_rfl)
    (of_decide_eq_true (by kernel_rfl)) (by unfold Func.isWrapper; first | (rw [if_pos (by decide +kernel)]; kernel_rfl) | (rw [if_neg (by decide +kernel)]; exact ⟨rfl, rfl⟩))
    (fun os started H enc _ => lifted os started H enc)

theorem proved : Rows.FnExactFollowPairsSaid :=
  over
end Go.Proofs.Ytckmgbobkffabaa.fnExactFollowPairs
