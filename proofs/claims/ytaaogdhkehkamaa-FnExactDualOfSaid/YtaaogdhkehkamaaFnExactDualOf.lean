/- For every machine: its dual, as in the model. -/
import Derived.Test.YtaaogdhkehkamaaMacT
import Derived.Test.YtaaogdhkehkamaaDu
import Derived.Test.YtaaogdhkehkamaaDuM
import Derived.Test.YtaaogdhkehkamaaOpenM
import Derived.Test.YtaaogdhkehkamaaPm
import Derived.Test.YtaaogdhkehkamaaAp
import Derived.Test.YtaaogdhkehkamaaOpen
import Derived.WalkKit
import Derived.Deep.RegionHeld3
import Derived.ProofKit
import Derived.OpenShut
namespace Go.Proofs.Ytaaogdhkehkamaa.fnExactDualOf
open Go.ChangeShapes Go.WideShapes Go.ChangeAt Go.RowKit Go.Lib
open Go.ChangeMaps (open_string shut_string)
set_option linter.unusedVariables false

theorem own : ownKnob Try.prog.godebug = none := by kernel_rfl
set_option linter.unusedSimpArgs false

set_option maxHeartbeats 4000000 in
set_option maxRecDepth 100000 in
theorem walk (v0 : Value) (x0 : Mac) (w : World) (K0 : MacW w v0 x0) (F0 : x0.wf) :
    Calls Try.prog 8 #[v0] w fun e w' => e = .returned (.bool true) ∧ Below w.heap.size w w' := by
  obtain ⟨p90, n90, c90, q90, m90, d90, rfl⟩ := K0.shape
  by_cases hbig0 : 1048576 < x0.parts
  · have HB := Lib.hid (alloc_same w (.cells #[.int .i64 x0.st, .slice p90 n90 c90, .slice q90 m90 d90] 41))
    have HX0 := Lib.hid (heap_alloc_new w (.cells #[.int .i64 x0.st, .slice p90 n90 c90, .slice q90 m90 d90] 41 (0, 0)))
    change Hid ((World.alloc w (.cells #[.int .i64 x0.st, .slice p90 n90 c90, .slice q90 m90 d90] 41)).heap[w.heap.size]? = _) at HX0
    have hs1 : w.heap.size + 1 ≤ (World.alloc w (.cells #[.int .i64 x0.st, .slice p90 n90 c90, .slice q90 m90 d90] 41)).heap.size := by simp
    go_enter Try.func8, Try.ntmps8
    obtain ⟨ea0, eb0, ec0, -⟩ := three_cells HX0.out
    go_wp2_with fail
    clear ea0 eb0 ec0
    generalize hgen : (World.alloc w (.cells #[.int .i64 x0.st, .slice p90 n90 c90, .slice q90 m90 d90] 41)) = w_1 at *
    clear hgen
    refine (szMachine_no (1048576) (K0.same HB.out) (by omega) (by omega) (by omega)).mono ?_
    rintro e w' ⟨rfl, hb⟩
    have HB2 := Lib.hid (HB.out.trans (hb.mono HB.out.size))
    go_wp2_with fail
    go_ret
    exact ⟨rfl, HB2.out⟩
  have HK0 := Lib.hid K0
  have HF0 := Lib.hid F0
  have hn0 : x0.parts ≤ 1048576 := by omega
  have hmn0 : x0.many ≤ 4194304 := by unfold Mac.many; unfold Mac.parts at hn0; omega
  have hmv0 : x0.moves.length ≤ 1048576 := by unfold Mac.parts at hn0; omega
  have hdm0 := dualM_many x0
  have hdp0 := dualM_parts x0
  clear K0 F0
  have HB := Lib.hid (alloc_same w (.cells #[.int .i64 x0.st, .slice p90 n90 c90, .slice q90 m90 d90] 41))
  have HX0 := Lib.hid (heap_alloc_new w (.cells #[.int .i64 x0.st, .slice p90 n90 c90, .slice q90 m90 d90] 41 (0, 0)))
  change Hid ((World.alloc w (.cells #[.int .i64 x0.st, .slice p90 n90 c90, .slice q90 m90 d90] 41)).heap[w.heap.size]? = _) at HX0
  have hs1 : w.heap.size + 1 ≤ (World.alloc w (.cells #[.int .i64 x0.st, .slice p90 n90 c90, .slice q90 m90 d90] 41)).heap.size := by simp
  go_enter Try.func8, Try.ntmps8
  obtain ⟨ea0, eb0, ec0, -⟩ := three_cells HX0.out
  go_wp2_with fail
  clear ea0 eb0 ec0
  generalize hgen : (World.alloc w (.cells #[.int .i64 x0.st, .slice p90 n90 c90, .slice q90 m90 d90] 41)) = w_1 at *
  clear hgen
  refine (szMachine_yes (1048576) (HK0.out.same HB.out) (by omega) (by omega)).mono ?_
  rintro e w_2 ⟨rfl, hb⟩
  have hs2 : w_1.heap.size ≤ w_2.heap.size := hb.size
  replace HX0 := Lib.hid (((hb).block _ (by omega)).trans HX0.out)
  replace HB := Lib.hid (HB.out.trans (hb.mono HB.out.size))
  clear hb
  obtain ⟨ea0, eb0, ec0, -⟩ := three_cells HX0.out
  go_wp2_with fail
  clear ea0 eb0 ec0
  refine (toMachine_any (HK0.out.same HB.out) (by omega)).mono ?_
  rintro e w_3 ⟨b0, rfl, ho, hb⟩
  have hs3 : w_2.heap.size ≤ w_3.heap.size := hb.size
  have HO0 := Lib.hid ho
  replace HX0 := Lib.hid (((hb).block _ (by omega)).trans HX0.out)
  replace HB := Lib.hid (HB.out.trans (hb.mono HB.out.size))
  clear ho hb
  obtain ⟨ea0, eb0, ec0, -⟩ := three_cells HX0.out
  go_wp2_with fail
  clear ea0 eb0 ec0
  refine (specDualOf_any HO0.out.mac (by omega)).mono ?_
  rintro e w_4 ⟨b1, rfl, ho, hb⟩
  have hs4 : w_3.heap.size ≤ w_4.heap.size := hb.size
  have HO1 := Lib.hid ho
  replace HO0 := Lib.hid (HO0.out.same hb)
  replace HX0 := Lib.hid (((hb).block _ (by omega)).trans HX0.out)
  replace HB := Lib.hid (HB.out.trans (hb.mono HB.out.size))
  clear ho hb
  obtain ⟨p1, n1, c1, q1, m1, d1, rfl⟩ := HO1.out.shape
  have HAL := Lib.hid (alloc_same w_4 (.cells #[.int .i64 (dualM x0).st, .slice p1 n1 c1, .slice q1 m1 d1] 27))
  have HX101 := Lib.hid (heap_alloc_new w_4 (.cells #[.int .i64 (dualM x0).st, .slice p1 n1 c1, .slice q1 m1 d1] 27 (0, 0)))
  change Hid ((World.alloc w_4 (.cells #[.int .i64 (dualM x0).st, .slice p1 n1 c1, .slice q1 m1 d1] 27)).heap[w_4.heap.size]? = _) at HX101
  replace HO0 := Lib.hid (HO0.out.same HAL.out)
  replace HO1 := Lib.hid (HO1.out.same HAL.out)
  replace HX0 := Lib.hid ((HAL.out.block _ (by omega)).trans HX0.out)
  replace HB := Lib.hid (HB.out.trans (HAL.out.mono HB.out.size))
  have hs5 : w_4.heap.size < (World.alloc w_4 (.cells #[.int .i64 (dualM x0).st, .slice p1 n1 c1, .slice q1 m1 d1] 27)).heap.size := by simp
  obtain ⟨ea0, eb0, ec0, -⟩ := three_cells HX0.out
  obtain ⟨ea101, eb101, ec101, -⟩ := three_cells HX101.out
  clear HAL
  go_wp2_with fail
  clear ea0 eb0 ec0 ea101 eb101 ec101
  generalize hgen : World.alloc w_4 (.cells #[.int .i64 (dualM x0).st, .slice p1 n1 c1, .slice q1 m1 d1] 27) = w_5 at *
  clear hgen
  refine (toMachine_any (HK0.out.same HB.out) (by omega)).mono ?_
  rintro e w_6 ⟨b2, rfl, ho, hb⟩
  have hs6 : w_5.heap.size ≤ w_6.heap.size := hb.size
  have HO2 := Lib.hid ho
  replace HO0 := Lib.hid (HO0.out.same hb)
  replace HO1 := Lib.hid (HO1.out.same hb)
  replace HX0 := Lib.hid (((hb).block _ (by omega)).trans HX0.out)
  replace HX101 := Lib.hid (((hb).block _ (by omega)).trans HX101.out)
  replace HB := Lib.hid (HB.out.trans (hb.mono HB.out.size))
  clear ho hb
  obtain ⟨p2, n2, c2, q2, m2, d2, rfl⟩ := HO2.out.shape
  have HAL := Lib.hid (alloc_same w_6 (.cells #[.int .i64 x0.st, .slice p2 n2 c2, .slice q2 m2 d2] 27))
  have HX102 := Lib.hid (heap_alloc_new w_6 (.cells #[.int .i64 x0.st, .slice p2 n2 c2, .slice q2 m2 d2] 27 (0, 0)))
  change Hid ((World.alloc w_6 (.cells #[.int .i64 x0.st, .slice p2 n2 c2, .slice q2 m2 d2] 27)).heap[w_6.heap.size]? = _) at HX102
  replace HO0 := Lib.hid (HO0.out.same HAL.out)
  replace HO1 := Lib.hid (HO1.out.same HAL.out)
  replace HO2 := Lib.hid (HO2.out.same HAL.out)
  replace HX0 := Lib.hid ((HAL.out.block _ (by omega)).trans HX0.out)
  replace HX101 := Lib.hid ((HAL.out.block _ (by omega)).trans HX101.out)
  replace HB := Lib.hid (HB.out.trans (HAL.out.mono HB.out.size))
  have hs7 : w_6.heap.size < (World.alloc w_6 (.cells #[.int .i64 x0.st, .slice p2 n2 c2, .slice q2 m2 d2] 27)).heap.size := by simp
  obtain ⟨ea0, eb0, ec0, -⟩ := three_cells HX0.out
  obtain ⟨ea101, eb101, ec101, -⟩ := three_cells HX101.out
  obtain ⟨ea102, eb102, ec102, -⟩ := three_cells HX102.out
  clear HAL
  go_wp2_with fail
  clear ea0 eb0 ec0 ea101 eb101 ec101 ea102 eb102 ec102
  generalize hgen : World.alloc w_6 (.cells #[.int .i64 x0.st, .slice p2 n2 c2, .slice q2 m2 d2] 27) = w_7 at *
  clear hgen
  refine (dualOf_any HO2.out.mac (by omega)).mono ?_
  rintro e w_8 ⟨b3, rfl, ho, hb⟩
  have hs8 : w_7.heap.size ≤ w_8.heap.size := hb.size
  have HO3 := Lib.hid ho
  replace HO0 := Lib.hid (HO0.out.same hb)
  replace HO1 := Lib.hid (HO1.out.same hb)
  replace HO2 := Lib.hid (HO2.out.same hb)
  replace HX0 := Lib.hid (((hb).block _ (by omega)).trans HX0.out)
  replace HX101 := Lib.hid (((hb).block _ (by omega)).trans HX101.out)
  replace HX102 := Lib.hid (((hb).block _ (by omega)).trans HX102.out)
  replace HB := Lib.hid (HB.out.trans (hb.mono HB.out.size))
  clear ho hb
  obtain ⟨p3, n3, c3, q3, m3, d3, rfl⟩ := HO3.out.shape
  have HAL := Lib.hid (alloc_same w_8 (.cells #[.int .i64 (dualM x0).st, .slice p3 n3 c3, .slice q3 m3 d3] 27))
  have HX103 := Lib.hid (heap_alloc_new w_8 (.cells #[.int .i64 (dualM x0).st, .slice p3 n3 c3, .slice q3 m3 d3] 27 (0, 0)))
  change Hid ((World.alloc w_8 (.cells #[.int .i64 (dualM x0).st, .slice p3 n3 c3, .slice q3 m3 d3] 27)).heap[w_8.heap.size]? = _) at HX103
  replace HO0 := Lib.hid (HO0.out.same HAL.out)
  replace HO1 := Lib.hid (HO1.out.same HAL.out)
  replace HO2 := Lib.hid (HO2.out.same HAL.out)
  replace HO3 := Lib.hid (HO3.out.same HAL.out)
  replace HX0 := Lib.hid ((HAL.out.block _ (by omega)).trans HX0.out)
  replace HX101 := Lib.hid ((HAL.out.block _ (by omega)).trans HX101.out)
  replace HX102 := Lib.hid ((HAL.out.block _ (by omega)).trans HX102.out)
  replace HB := Lib.hid (HB.out.trans (HAL.out.mono HB.out.size))
  have hs9 : w_8.heap.size < (World.alloc w_8 (.cells #[.int .i64 (dualM x0).st, .slice p3 n3 c3, .slice q3 m3 d3] 27)).heap.size := by simp
  obtain ⟨ea0, eb0, ec0, -⟩ := three_cells HX0.out
  obtain ⟨ea101, eb101, ec101, -⟩ := three_cells HX101.out
  obtain ⟨ea102, eb102, ec102, -⟩ := three_cells HX102.out
  obtain ⟨ea103, eb103, ec103, -⟩ := three_cells HX103.out
  clear HAL
  go_wp2_with fail
  clear ea0 eb0 ec0 ea101 eb101 ec101 ea102 eb102 ec102 ea103 eb103 ec103
  generalize hgen : World.alloc w_8 (.cells #[.int .i64 (dualM x0).st, .slice p3 n3 c3, .slice q3 m3 d3] 27) = w_9 at *
  clear hgen
  refine (eqMachine_yes HO3.out.mac HO1.out.mac).mono ?_
  rintro e w_10 ⟨rfl, hb⟩
  have hs10 : w_9.heap.size ≤ w_10.heap.size := hb.size
  replace HO0 := Lib.hid (HO0.out.same hb)
  replace HO1 := Lib.hid (HO1.out.same hb)
  replace HO2 := Lib.hid (HO2.out.same hb)
  replace HO3 := Lib.hid (HO3.out.same hb)
  replace HX0 := Lib.hid (((hb).block _ (by omega)).trans HX0.out)
  replace HX101 := Lib.hid (((hb).block _ (by omega)).trans HX101.out)
  replace HX102 := Lib.hid (((hb).block _ (by omega)).trans HX102.out)
  replace HX103 := Lib.hid (((hb).block _ (by omega)).trans HX103.out)
  replace HB := Lib.hid (HB.out.trans (hb.mono HB.out.size))
  clear hb
  obtain ⟨ea0, eb0, ec0, -⟩ := three_cells HX0.out
  obtain ⟨ea101, eb101, ec101, -⟩ := three_cells HX101.out
  obtain ⟨ea102, eb102, ec102, -⟩ := three_cells HX102.out
  obtain ⟨ea103, eb103, ec103, -⟩ := three_cells HX103.out
  go_wp2_with fail
  clear ea0 eb0 ec0 ea101 eb101 ec101 ea102 eb102 ec102 ea103 eb103 ec103
  have CX102 := Lib.hid (three_cells HX102.out)
  have CX0 := Lib.hid (three_cells HX0.out)
  have HBd : Hid (Below w_10.heap.size w_10 w_10.drew) := Lib.hid (Below.refl _ _).drew
  refine wp_region_held_drew (S := fun w9 => w9.cell? ⟨w_6.heap.size, 0, none⟩ = some (.int .i64 x0.st) ∧ w9.cell? ⟨w_6.heap.size, 1, none⟩ = some (.slice p2 n2 c2) ∧ w9.cell? ⟨w_6.heap.size, 2, none⟩ = some (.slice q2 m2 d2) ∧ w9.cell? ⟨w.heap.size, 0, none⟩ = some (.int .i64 x0.st) ∧ w9.cell? ⟨w.heap.size, 1, none⟩ = some (.slice p90 n90 c90) ∧ w9.cell? ⟨w.heap.size, 2, none⟩ = some (.slice q90 m90 d90)) (by kernel_rfl) ⟨cell_stay CX102.out.1 HBd.out, cell_stay CX102.out.2.1 HBd.out, cell_stay CX102.out.2.2.1 HBd.out, cell_stay CX0.out.1 HBd.out, cell_stay CX0.out.2.1 HBd.out, cell_stay CX0.out.2.2.1 HBd.out⟩ (fun hHeld => ?_)
  refine wpAnyH_take (i := 0) (v := ?v10) (by simp only [List.getElem?_toArray, List.getElem?_cons_succ, List.getElem?_cons_zero]; rfl) (by kernel_rfl) (by kernel_rfl) (by kernel_rfl) (by exact fun _ _ _ h => h) (Or.inl ⟨by rfl, fun w9 hS9 => ?hy10⟩) hHeld ?rest10
  case hy10 =>
    dsimp only at hS9
    obtain ⟨z0, z1, z2, z3, z4, z5⟩ := hS9
    go_simp
    try with_reducible rfl
  try simp only [Act.put, List.setIfInBounds_toArray, List.set_cons_zero, List.set_cons_succ]
  refine wpAnyH_take (i := 1) (v := ?v11) (by simp only [List.getElem?_toArray, List.getElem?_cons_succ, List.getElem?_cons_zero]; rfl) (by kernel_rfl) (by kernel_rfl) (by kernel_rfl) (by exact fun _ _ _ h => h) (Or.inl ⟨by rfl, fun w9 hS9 => ?hy11⟩) hHeld ?rest11
  case hy11 =>
    dsimp only at hS9
    obtain ⟨z0, z1, z2, z3, z4, z5⟩ := hS9
    go_simp
    try with_reducible rfl
  try simp only [Act.put, List.setIfInBounds_toArray, List.set_cons_zero, List.set_cons_succ]
  refine wpAnyH_ready (rs := [2]) (by kernel_rfl) (by simp) (AllReadyH.cons (by simp only [List.getElem?_toArray, List.getElem?_cons_succ, List.getElem?_cons_zero]; rfl) (fun K hK => ?_) AllReadyH.nil)
  go_simp
  refine (toMachine_any ((HK0.out.same HB.out).same HBd.out) (by omega)).mono ?_
  rintro e w1 ⟨b9, rfl, ho1, hb1⟩
  have HB1 : Hid (Below w_10.heap.size w_10 w1) := Lib.hid (HBd.out.trans (hb1.mono HBd.out.size))
  have HO9 := Lib.hid ho1.mac
  clear ho1
  clear hb1
  go_wp2_with fail
  refine hK.out _ _ ⟨cell_stay CX102.out.1 HB1.out, cell_stay CX102.out.2.1 HB1.out, cell_stay CX102.out.2.2.1 HB1.out, cell_stay CX0.out.1 HB1.out, cell_stay CX0.out.2.1 HB1.out, cell_stay CX0.out.2.2.1 HB1.out⟩ (fun hHeld => ?_)
  clear hK K
  try simp only [Act.put, List.setIfInBounds_toArray, List.set_cons_zero, List.set_cons_succ]
  refine wpAnyH_ready (rs := [3]) (by kernel_rfl) (by simp) (AllReadyH.cons (by simp only [List.getElem?_toArray, List.getElem?_cons_succ, List.getElem?_cons_zero]; rfl) (fun K hK => ?_) AllReadyH.nil)
  go_simp
  refine (eqMachine_yes (HO2.out.mac.same HB1.out) HO9.out).mono ?_
  rintro e w2 ⟨rfl, hb2⟩
  have HB2 : Hid (Below w_10.heap.size w_10 w2) := Lib.hid (HB1.out.trans (hb2.mono HB1.out.size))
  clear hb2
  go_wp2_with fail
  refine hK.out _ _ ⟨cell_stay CX102.out.1 HB2.out, cell_stay CX102.out.2.1 HB2.out, cell_stay CX102.out.2.2.1 HB2.out, cell_stay CX0.out.1 HB2.out, cell_stay CX0.out.2.1 HB2.out, cell_stay CX0.out.2.2.1 HB2.out⟩ (fun hHeld => ?_)
  clear hK K
  try simp only [Act.put, List.setIfInBounds_toArray, List.set_cons_zero, List.set_cons_succ]
  refine wpAnyH_take (i := 4) (v := ?v12) (by simp only [List.getElem?_toArray, List.getElem?_cons_succ, List.getElem?_cons_zero]; rfl) (by kernel_rfl) (by kernel_rfl) (by kernel_rfl) (by exact fun _ _ _ h => h) (Or.inl ⟨by rfl, fun w9 hS9 => ?hy12⟩) hHeld ?rest12
  case hy12 =>
    dsimp only at hS9
    obtain ⟨z0, z1, z2, z3, z4, z5⟩ := hS9
    go_simp
    try with_reducible rfl
  try simp only [Act.put, List.setIfInBounds_toArray, List.set_cons_zero, List.set_cons_succ]
  refine wpAnyH_done (by kernel_rfl) ?_ _
  obtain ⟨w_11, hwv⟩ : ∃ u, u = w2 := ⟨w2, rfl⟩
  subst hwv
  have hs11 : w_10.heap.size ≤ w_11.heap.size := HB2.out.size
  replace HO0 := Lib.hid (HO0.out.same HB2.out)
  replace HO1 := Lib.hid (HO1.out.same HB2.out)
  replace HO2 := Lib.hid (HO2.out.same HB2.out)
  replace HO3 := Lib.hid (HO3.out.same HB2.out)
  replace HX0 := Lib.hid (((HB2.out).block _ (by omega)).trans HX0.out)
  replace HX101 := Lib.hid (((HB2.out).block _ (by omega)).trans HX101.out)
  replace HX102 := Lib.hid (((HB2.out).block _ (by omega)).trans HX102.out)
  replace HX103 := Lib.hid (((HB2.out).block _ (by omega)).trans HX103.out)
  replace HB := Lib.hid (HB.out.trans (HB2.out.mono HB.out.size))
  clear CX102 CX0
  obtain ⟨ea0, eb0, ec0, -⟩ := three_cells HX0.out
  obtain ⟨ea101, eb101, ec101, -⟩ := three_cells HX101.out
  obtain ⟨ea102, eb102, ec102, -⟩ := three_cells HX102.out
  obtain ⟨ea103, eb103, ec103, -⟩ := three_cells HX103.out
  go_wp2_with fail
  clear ea0 eb0 ec0 ea101 eb101 ec101 ea102 eb102 ec102 ea103 eb103 ec103
  refine (markMachine_any (k := 1) HO2.out (by omega) (by omega)).mono ?_
  rintro e w_12 ⟨rfl, ho, hg⟩
  have hs12 : w_11.heap.size ≤ w_12.heap.size := hg.size
  replace HO0 := Lib.hid (HO0.out.aside hg (by omega))
  replace HO1 := Lib.hid (HO1.out.aside hg (by omega))
  replace HO3 := Lib.hid (HO3.out.aside hg (by omega))
  replace HX0 := Lib.hid ((hg.block _ (by omega) (by omega)).trans HX0.out)
  replace HX101 := Lib.hid ((hg.block _ (by omega) (by omega)).trans HX101.out)
  replace HX102 := Lib.hid ((hg.block _ (by omega) (by omega)).trans HX102.out)
  replace HX103 := Lib.hid ((hg.block _ (by omega) (by omega)).trans HX103.out)
  replace HO2 := Lib.hid ho
  replace HB := Lib.hid (hg.to HB.out (by omega) HB.out.size)
  clear ho hg
  obtain ⟨ea0, eb0, ec0, -⟩ := three_cells HX0.out
  obtain ⟨ea101, eb101, ec101, -⟩ := three_cells HX101.out
  obtain ⟨ea102, eb102, ec102, -⟩ := three_cells HX102.out
  obtain ⟨ea103, eb103, ec103, -⟩ := three_cells HX103.out
  go_wp2_with fail
  clear ea0 eb0 ec0 ea101 eb101 ec101 ea102 eb102 ec102 ea103 eb103 ec103
  refine (eqMachine_yes HO3.out.mac HO1.out.mac).mono ?_
  rintro e w_13 ⟨rfl, hb⟩
  have hs13 : w_12.heap.size ≤ w_13.heap.size := hb.size
  replace HO0 := Lib.hid (HO0.out.same hb)
  replace HO1 := Lib.hid (HO1.out.same hb)
  replace HO2 := Lib.hid (HO2.out.same hb)
  replace HO3 := Lib.hid (HO3.out.same hb)
  replace HX0 := Lib.hid (((hb).block _ (by omega)).trans HX0.out)
  replace HX101 := Lib.hid (((hb).block _ (by omega)).trans HX101.out)
  replace HX102 := Lib.hid (((hb).block _ (by omega)).trans HX102.out)
  replace HX103 := Lib.hid (((hb).block _ (by omega)).trans HX103.out)
  replace HB := Lib.hid (HB.out.trans (hb.mono HB.out.size))
  clear hb
  obtain ⟨ea0, eb0, ec0, -⟩ := three_cells HX0.out
  obtain ⟨ea101, eb101, ec101, -⟩ := three_cells HX101.out
  obtain ⟨ea102, eb102, ec102, -⟩ := three_cells HX102.out
  obtain ⟨ea103, eb103, ec103, -⟩ := three_cells HX103.out
  go_wp2_with fail
  clear ea0 eb0 ec0 ea101 eb101 ec101 ea102 eb102 ec102 ea103 eb103 ec103
  refine (markMachine_any (k := 1) HO3.out (by omega) (by omega)).mono ?_
  rintro e w_14 ⟨rfl, ho, hg⟩
  have hs14 : w_13.heap.size ≤ w_14.heap.size := hg.size
  replace HO0 := Lib.hid (HO0.out.aside hg (by omega))
  replace HO1 := Lib.hid (HO1.out.aside hg (by omega))
  replace HO2 := Lib.hid (HO2.out.aside hg (by omega))
  replace HX0 := Lib.hid ((hg.block _ (by omega) (by omega)).trans HX0.out)
  replace HX101 := Lib.hid ((hg.block _ (by omega) (by omega)).trans HX101.out)
  replace HX102 := Lib.hid ((hg.block _ (by omega) (by omega)).trans HX102.out)
  replace HX103 := Lib.hid ((hg.block _ (by omega) (by omega)).trans HX103.out)
  replace HO3 := Lib.hid ho
  replace HB := Lib.hid (hg.to HB.out (by omega) HB.out.size)
  clear ho hg
  obtain ⟨ea0, eb0, ec0, -⟩ := three_cells HX0.out
  obtain ⟨ea101, eb101, ec101, -⟩ := three_cells HX101.out
  obtain ⟨ea102, eb102, ec102, -⟩ := three_cells HX102.out
  obtain ⟨ea103, eb103, ec103, -⟩ := three_cells HX103.out
  go_wp2_with fail
  clear ea0 eb0 ec0 ea101 eb101 ec101 ea102 eb102 ec102 ea103 eb103 ec103
  refine (heldMachine_any (k := 1) (x := (dualM x0)) HO3.out.mac (by omega) (by omega)).mono ?_
  rintro e w_15 ⟨rfl, hb⟩
  have hs15 : w_14.heap.size ≤ w_15.heap.size := hb.size
  replace HO0 := Lib.hid (HO0.out.same hb)
  replace HO1 := Lib.hid (HO1.out.same hb)
  replace HO2 := Lib.hid (HO2.out.same hb)
  replace HO3 := Lib.hid (HO3.out.same hb)
  replace HX0 := Lib.hid (((hb).block _ (by omega)).trans HX0.out)
  replace HX101 := Lib.hid (((hb).block _ (by omega)).trans HX101.out)
  replace HX102 := Lib.hid (((hb).block _ (by omega)).trans HX102.out)
  replace HX103 := Lib.hid (((hb).block _ (by omega)).trans HX103.out)
  replace HB := Lib.hid (HB.out.trans (hb.mono HB.out.size))
  clear hb
  obtain ⟨ea0, eb0, ec0, -⟩ := three_cells HX0.out
  obtain ⟨ea101, eb101, ec101, -⟩ := three_cells HX101.out
  obtain ⟨ea102, eb102, ec102, -⟩ := three_cells HX102.out
  obtain ⟨ea103, eb103, ec103, -⟩ := three_cells HX103.out
  go_wp2_with fail
  clear ea0 eb0 ec0 ea101 eb101 ec101 ea102 eb102 ec102 ea103 eb103 ec103
  refine (toMachine_any (HK0.out.same HB.out) (by omega)).mono ?_
  rintro e w_16 ⟨b4, rfl, ho, hb⟩
  have hs16 : w_15.heap.size ≤ w_16.heap.size := hb.size
  have HO4 := Lib.hid ho
  replace HO0 := Lib.hid (HO0.out.same hb)
  replace HO1 := Lib.hid (HO1.out.same hb)
  replace HO2 := Lib.hid (HO2.out.same hb)
  replace HO3 := Lib.hid (HO3.out.same hb)
  replace HX0 := Lib.hid (((hb).block _ (by omega)).trans HX0.out)
  replace HX101 := Lib.hid (((hb).block _ (by omega)).trans HX101.out)
  replace HX102 := Lib.hid (((hb).block _ (by omega)).trans HX102.out)
  replace HX103 := Lib.hid (((hb).block _ (by omega)).trans HX103.out)
  replace HB := Lib.hid (HB.out.trans (hb.mono HB.out.size))
  clear ho hb
  obtain ⟨ea0, eb0, ec0, -⟩ := three_cells HX0.out
  obtain ⟨ea101, eb101, ec101, -⟩ := three_cells HX101.out
  obtain ⟨ea102, eb102, ec102, -⟩ := three_cells HX102.out
  obtain ⟨ea103, eb103, ec103, -⟩ := three_cells HX103.out
  go_wp2_with fail
  clear ea0 eb0 ec0 ea101 eb101 ec101 ea102 eb102 ec102 ea103 eb103 ec103
  refine (dualOf_any HO4.out.mac (by omega)).mono ?_
  rintro e w_17 ⟨b5, rfl, ho, hb⟩
  have hs17 : w_16.heap.size ≤ w_17.heap.size := hb.size
  have HO5 := Lib.hid ho
  replace HO0 := Lib.hid (HO0.out.same hb)
  replace HO1 := Lib.hid (HO1.out.same hb)
  replace HO2 := Lib.hid (HO2.out.same hb)
  replace HO3 := Lib.hid (HO3.out.same hb)
  replace HO4 := Lib.hid (HO4.out.same hb)
  replace HX0 := Lib.hid (((hb).block _ (by omega)).trans HX0.out)
  replace HX101 := Lib.hid (((hb).block _ (by omega)).trans HX101.out)
  replace HX102 := Lib.hid (((hb).block _ (by omega)).trans HX102.out)
  replace HX103 := Lib.hid (((hb).block _ (by omega)).trans HX103.out)
  replace HB := Lib.hid (HB.out.trans (hb.mono HB.out.size))
  clear ho hb
  obtain ⟨p5, n5, c5, q5, m5, d5, rfl⟩ := HO5.out.shape
  have HAL := Lib.hid (alloc_same w_17 (.cells #[.int .i64 (dualM x0).st, .slice p5 n5 c5, .slice q5 m5 d5] 27))
  have HX105 := Lib.hid (heap_alloc_new w_17 (.cells #[.int .i64 (dualM x0).st, .slice p5 n5 c5, .slice q5 m5 d5] 27 (0, 0)))
  change Hid ((World.alloc w_17 (.cells #[.int .i64 (dualM x0).st, .slice p5 n5 c5, .slice q5 m5 d5] 27)).heap[w_17.heap.size]? = _) at HX105
  replace HO0 := Lib.hid (HO0.out.same HAL.out)
  replace HO1 := Lib.hid (HO1.out.same HAL.out)
  replace HO2 := Lib.hid (HO2.out.same HAL.out)
  replace HO3 := Lib.hid (HO3.out.same HAL.out)
  replace HO4 := Lib.hid (HO4.out.same HAL.out)
  replace HO5 := Lib.hid (HO5.out.same HAL.out)
  replace HX0 := Lib.hid ((HAL.out.block _ (by omega)).trans HX0.out)
  replace HX101 := Lib.hid ((HAL.out.block _ (by omega)).trans HX101.out)
  replace HX102 := Lib.hid ((HAL.out.block _ (by omega)).trans HX102.out)
  replace HX103 := Lib.hid ((HAL.out.block _ (by omega)).trans HX103.out)
  replace HB := Lib.hid (HB.out.trans (HAL.out.mono HB.out.size))
  have hs18 : w_17.heap.size < (World.alloc w_17 (.cells #[.int .i64 (dualM x0).st, .slice p5 n5 c5, .slice q5 m5 d5] 27)).heap.size := by simp
  obtain ⟨ea0, eb0, ec0, -⟩ := three_cells HX0.out
  obtain ⟨ea101, eb101, ec101, -⟩ := three_cells HX101.out
  obtain ⟨ea102, eb102, ec102, -⟩ := three_cells HX102.out
  obtain ⟨ea103, eb103, ec103, -⟩ := three_cells HX103.out
  obtain ⟨ea105, eb105, ec105, -⟩ := three_cells HX105.out
  clear HAL
  go_wp2_with fail
  clear ea0 eb0 ec0 ea101 eb101 ec101 ea102 eb102 ec102 ea103 eb103 ec103 ea105 eb105 ec105
  generalize hgen : World.alloc w_17 (.cells #[.int .i64 (dualM x0).st, .slice p5 n5 c5, .slice q5 m5 d5] 27) = w_18 at *
  clear hgen
  refine (eqMachine_yes HO5.out.mac HO1.out.mac).mono ?_
  rintro e w_19 ⟨rfl, hb⟩
  have hs19 : w_18.heap.size ≤ w_19.heap.size := hb.size
  replace HO0 := Lib.hid (HO0.out.same hb)
  replace HO1 := Lib.hid (HO1.out.same hb)
  replace HO2 := Lib.hid (HO2.out.same hb)
  replace HO3 := Lib.hid (HO3.out.same hb)
  replace HO4 := Lib.hid (HO4.out.same hb)
  replace HO5 := Lib.hid (HO5.out.same hb)
  replace HX0 := Lib.hid (((hb).block _ (by omega)).trans HX0.out)
  replace HX101 := Lib.hid (((hb).block _ (by omega)).trans HX101.out)
  replace HX102 := Lib.hid (((hb).block _ (by omega)).trans HX102.out)
  replace HX103 := Lib.hid (((hb).block _ (by omega)).trans HX103.out)
  replace HX105 := Lib.hid (((hb).block _ (by omega)).trans HX105.out)
  replace HB := Lib.hid (HB.out.trans (hb.mono HB.out.size))
  clear hb
  obtain ⟨ea0, eb0, ec0, -⟩ := three_cells HX0.out
  obtain ⟨ea101, eb101, ec101, -⟩ := three_cells HX101.out
  obtain ⟨ea102, eb102, ec102, -⟩ := three_cells HX102.out
  obtain ⟨ea103, eb103, ec103, -⟩ := three_cells HX103.out
  obtain ⟨ea105, eb105, ec105, -⟩ := three_cells HX105.out
  go_wp2_with fail
  clear ea0 eb0 ec0 ea101 eb101 ec101 ea102 eb102 ec102 ea103 eb103 ec103 ea105 eb105 ec105
  refine (heldMachine_any (k := 1) (x := (dualM x0)) HO3.out.mac (by omega) (by omega)).mono ?_
  rintro e w_20 ⟨rfl, hb⟩
  have hs20 : w_19.heap.size ≤ w_20.heap.size := hb.size
  replace HO0 := Lib.hid (HO0.out.same hb)
  replace HO1 := Lib.hid (HO1.out.same hb)
  replace HO2 := Lib.hid (HO2.out.same hb)
  replace HO3 := Lib.hid (HO3.out.same hb)
  replace HO4 := Lib.hid (HO4.out.same hb)
  replace HO5 := Lib.hid (HO5.out.same hb)
  replace HX0 := Lib.hid (((hb).block _ (by omega)).trans HX0.out)
  replace HX101 := Lib.hid (((hb).block _ (by omega)).trans HX101.out)
  replace HX102 := Lib.hid (((hb).block _ (by omega)).trans HX102.out)
  replace HX103 := Lib.hid (((hb).block _ (by omega)).trans HX103.out)
  replace HX105 := Lib.hid (((hb).block _ (by omega)).trans HX105.out)
  replace HB := Lib.hid (HB.out.trans (hb.mono HB.out.size))
  clear hb
  obtain ⟨ea0, eb0, ec0, -⟩ := three_cells HX0.out
  obtain ⟨ea101, eb101, ec101, -⟩ := three_cells HX101.out
  obtain ⟨ea102, eb102, ec102, -⟩ := three_cells HX102.out
  obtain ⟨ea103, eb103, ec103, -⟩ := three_cells HX103.out
  obtain ⟨ea105, eb105, ec105, -⟩ := three_cells HX105.out
  go_wp2_with fail
  clear ea0 eb0 ec0 ea101 eb101 ec101 ea102 eb102 ec102 ea103 eb103 ec103 ea105 eb105 ec105
  go_ret
  exact ⟨rfl, HB.out⟩

set_option maxRecDepth 100000 in
theorem lifted (os : Os) (started : os.Started) (H : Type) (enc : TypeId × Value → H) :
    ReturnsInHanded {} Try.checked os 8 .any (Rows.fnExactDualOfSpec.pre6 enc Try.prog Try.f8 Rows.fnExactDualOfRow.domain false) (Rows.fnExactDualOfSpec.post enc Try.prog Try.f8 false true false false) := by
  refine returnsInHanded_of_change (C := Try.checked) own started (by kernel_rfl) Try.func8
    (ChangeSpec.witness6 (enc := enc) (C := Try.checked) false ⟨#[], #[.agg #[.int .i64 0, .slice none 0 0, .slice none 0 0]], []⟩ 8 (by kernel_rfl) (by kernel_rfl) (by kernel_rfl) (by kernel_rfl)) ?_
  intro W base args ds gs before hval0 hW hcnd _
  have hval : ∀ (j : Nat) t v, Try.f8.params[j]? = some t → args[j]? = some v → Value.okWide Try.prog W .any base t v := hval0
  have hW' := hW
  obtain ⟨p, q, hA0, hV, rfl, hfz, hnd⟩ := hW
  have hA : DataW.TrodAll enc Try.prog W 0 (fun _ => true) true Try.f8.params.toList args.toList ds p := hA0
  rw [Try.params8] at hA hval
  obtain ⟨v0, vs0, d0, ds0, p0, q0, hargs, rfl, rfl, h0, r0⟩ := trodAll_cons hA
  obtain ⟨rfl, rfl, rfl⟩ := trodAll_nil r0
  obtain rfl : args = #[v0] := by cases args; simp_all
  obtain ⟨rfl, rfl⟩ := trodVars_none hV
  have h0k := h0
  have hlt0 : ∀ x ∈ p0, x.block < W.heap.size := fun x hx => by simpa using hW'.lt x (by simp [hx])
  obtain ⟨x0, K0, F0⟩ := open_mac Try.underlying41 (by kernel_rfl) (by kernel_rfl) Try.underlying3 Try.underlying24 Try.underlying4 (by kernel_rfl) Try.underlying39 Try.underlying94 (by kernel_rfl) (by kernel_rfl) Try.underlying3 Try.underlying4 Try.underlying3 Try.underlying3 (hval 0 41 v0 rfl rfl) h0
  clear hA0 hval0
  simp only [List.append_nil] at hW'
  refine (walk v0 x0 W K0 F0).mono fun e W' ⟨he, hb⟩ => ?_
  subst he
  exact ⟨_, rfl, ⟨_, _, _, [], _, [], hW', (trodAll_cons_mk (shut_bool Try.underlying4 _) trodAll_mk0), (trodAll_cons_mk (Below.trod laidOut (by kernel_rfl) (of_decide_eq_true (by kernel_rfl)) h0k hb hlt0) trodAll_mk0), rfl, hb.frame _, fun h => by cases h⟩⟩

theorem over : Rows.fnExactDualOfRow.holds Try.pinned (OpenSpec.ofChange Rows.fnExactDualOfSpec) :=
  OpenClaim.holds_of_wide 8 Try.f8 rfl rfl rfl rfl rfl rfl rfl ⟨rfl, rfl, rfl, rfl, rfl⟩ rfl rfl rfl rfl rfl (by kernel_rfl) Try.func8 (by kernel_rfl)
    (of_decide_eq_true (by kernel_rfl)) (by unfold Func.isWrapper; first | (rw [if_pos (by decide +kernel)]; kernel_rfl) | (rw [if_neg (by decide +kernel)]; exact ⟨rfl, rfl⟩))
    (fun os started H enc _ => lifted os started H enc)

theorem proved : Rows.FnExactDualOfSaid :=
  over
end Go.Proofs.Ytaaogdhkehkamaa.fnExactDualOf
