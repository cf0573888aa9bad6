/- For every two machines: whether the newer one follows the older one, as in the model. -/
import Derived.Test.YtckmgbobkffabaaG5
import Derived.Test.YtckmgbobkffabaaG25
import Derived.Test.YtckmgbobkffabaaG33
import Derived.Test.YtckmgbobkffabaaG34
import Derived.Test.YtckmgbobkffabaaG11
import Derived.Test.YtckmgbobkffabaaG12
import Derived.Test.YtckmgbobkffabaaG10
import Derived.WalkKit
import Derived.Deep.RegionHeld3
import Derived.ProofKit
import Derived.OpenShut
namespace Go.Proofs.Ytckmgbobkffabaa.fnExactFollows
open Go.ChangeShapes Go.WideShapes Go.ChangeAt Go.RowKit Go.Lib
open Go.ChangeMaps (open_string shut_string)
set_option linter.unusedVariables false

theorem own : ownKnob Try.prog.godebug = none := by kernel_rfl
set_option linter.unusedSimpArgs false

set_option maxHeartbeats 4000000 in
set_option maxRecDepth 100000 in
theorem walk (v0 : Value) (x0 : Mac) (v1 : Value) (x1 : Mac) (w : World) (K0 : MacW w v0 x0) (F0 : x0.wf) (K1 : MacW w v1 x1) (F1 : x1.wf) :
  Calls Try.prog 11 #[v0, v1] w fun e w' => e = .returned (.bool true) ∧ Below w.heap.size w w' := by
 obtain ⟨p90, n90, c90, q90, m90, d90, rfl⟩ := K0.shape
 obtain ⟨p91, n91, c91, q91, m91, d91, rfl⟩ := K1.shape
 by_cases hbig0 : 1048576 < x0.parts
 ·obtain ⟨hB9, hX9, hY9, hz9⟩ := two_boxes w #[.int .i64 x0.st, .slice p90 n90 c90, .slice q90 m90 d90] #[.int .i64 x1.st, .slice p91 n91 c91, .slice q91 m91 d91] 44
  have HB := Lib.hid hB9
  have HX0 := Lib.hid hX9
  have HX1 := Lib.hid hY9
  have hs1 : w.heap.size + 2 ≤ (World.alloc (World.alloc w (.cells #[.int .i64 x0.st, .slice p90 n90 c90, .slice q90 m90 d90] 44)) (.cells #[.int .i64 x1.st, .slice p91 n91 c91, .slice q91 m91 d91] 44)).heap.size := by omega
  clear hB9 hX9 hY9 hz9
  go_enter Try.func11, Try.ntmps11
  obtain ⟨ea0, eb0, ec0, -⟩ := three_cells HX0.out
  obtain ⟨ea1, eb1, ec1, -⟩ := three_cells HX1.out
  go_wp2_with fail
  clear ea0 eb0 ec0 ea1 eb1 ec1
  generalize hgen : (World.alloc (World.alloc w (.cells #[.int .i64 x0.st, .slice p90 n90 c90, .slice q90 m90 d90] 44)) (.cells #[.int .i64 x1.st, .slice p91 n91 c91, .slice q91 m91 d91] 44)) = w_1 at *
  clear hgen
  refine (szMachine_no (1048576) (K0.same HB.out) (by omega) (by omega) (by omega)).mono ?_
  rintro e w' ⟨rfl, hb⟩
  have HB2 := Lib.hid (HB.out.trans (hb.mono HB.out.size))
  go_wp2_with fail
  go_ret
  exact ⟨rfl, HB2.out⟩
 by_cases hbig1 : 1048576 < x0.parts + x1.parts
 ·obtain ⟨hB9, hX9, hY9, hz9⟩ := two_boxes w #[.int .i64 x0.st, .slice p90 n90 c90, .slice q90 m90 d90] #[.int .i64 x1.st, .slice p91 n91 c91, .slice q91 m91 d91] 44
  have HB := Lib.hid hB9
  have HX0 := Lib.hid hX9
  have HX1 := Lib.hid hY9
  have hs1 : w.heap.size + 2 ≤ (World.alloc (World.alloc w (.cells #[.int .i64 x0.st, .slice p90 n90 c90, .slice q90 m90 d90] 44)) (.cells #[.int .i64 x1.st, .slice p91 n91 c91, .slice q91 m91 d91] 44)).heap.size := by omega
  clear hB9 hX9 hY9 hz9
  go_enter Try.func11, Try.ntmps11
  obtain ⟨ea0, eb0, ec0, -⟩ := three_cells HX0.out
  obtain ⟨ea1, eb1, ec1, -⟩ := three_cells HX1.out
  go_wp2_with fail
  clear ea0 eb0 ec0 ea1 eb1 ec1
  generalize hgen : (World.alloc (World.alloc w (.cells #[.int .i64 x0.st, .slice p90 n90 c90, .slice q90 m90 d90] 44)) (.cells #[.int .i64 x1.st, .slice p91 n91 c91, .slice q91 m91 d91] 44)) = w_1 at *
  clear hgen
  refine (szMachine_yes (1048576) (K0.same HB.out) (by omega) (by omega)).mono ?_
  rintro e w_p0 ⟨rfl, hb⟩
  have hsp0 : w_1.heap.size ≤ w_p0.heap.size := hb.size
  replace HX0 := Lib.hid (((hb).block _ (by omega)).trans HX0.out)
  replace HX1 := Lib.hid (((hb).block _ (by omega)).trans HX1.out)
  replace HB := Lib.hid (HB.out.trans (hb.mono HB.out.size))
  clear hb
  obtain ⟨ea0, eb0, ec0, -⟩ := three_cells HX0.out
  obtain ⟨ea1, eb1, ec1, -⟩ := three_cells HX1.out
  go_wp2_with fail
  clear ea0 eb0 ec0 ea1 eb1 ec1
  refine (szMachine_no (1048576 - x0.parts) (K1.same HB.out) (by omega) (by omega) (by omega)).mono ?_
  rintro e w' ⟨rfl, hb⟩
  have HB2 := Lib.hid (HB.out.trans (hb.mono HB.out.size))
  go_wp2_with fail
  go_ret
  exact ⟨rfl, HB2.out⟩
 have HK0 := Lib.hid K0
 have HF0 := Lib.hid F0
 have hn0 : x0.parts ≤ 1048576 := by omega
 have hmn0 : x0.many ≤ 4194304 := by unfold Mac.many; unfold Mac.parts at hn0; omega
 have hmv0 : x0.moves.length ≤ 1048576 := by unfold Mac.parts at hn0; omega
 have hdm0 := dualM_many x0
 have hdp0 := dualM_parts x0
 have HK1 := Lib.hid K1
 have HF1 := Lib.hid F1
 have hn1 : x1.parts ≤ 1048576 := by omega
 have hmn1 : x1.many ≤ 4194304 := by unfold Mac.many; unfold Mac.parts at hn1; omega
 have hmv1 : x1.moves.length ≤ 1048576 := by unfold Mac.parts at hn1; omega
 have hdm1 := dualM_many x1
 have hdp1 := dualM_parts x1
 clear K0 F0 K1 F1
 obtain ⟨hB9, hX9, hY9, hz9⟩ := two_boxes w #[.int .i64 x0.st, .slice p90 n90 c90, .slice q90 m90 d90] #[.int .i64 x1.st, .slice p91 n91 c91, .slice q91 m91 d91] 44
 have HB := Lib.hid hB9
 have HX0 := Lib.hid hX9
 have HX1 := Lib.hid hY9
 have hs1 : w.heap.size + 2 ≤ (World.alloc (World.alloc w (.cells #[.int .i64 x0.st, .slice p90 n90 c90, .slice q90 m90 d90] 44)) (.cells #[.int .i64 x1.st, .slice p91 n91 c91, .slice q91 m91 d91] 44)).heap.size := by omega
 clear hB9 hX9 hY9 hz9
 go_enter Try.func11, Try.ntmps11
 obtain ⟨ea0, eb0, ec0, -⟩ := three_cells HX0.out
 obtain ⟨ea1, eb1, ec1, -⟩ := three_cells HX1.out
 go_wp2_with fail
 clear ea0 eb0 ec0 ea1 eb1 ec1
 generalize hgen : (World.alloc (World.alloc w (.cells #[.int .i64 x0.st, .slice p90 n90 c90, .slice q90 m90 d90] 44)) (.cells #[.int .i64 x1.st, .slice p91 n91 c91, .slice q91 m91 d91] 44)) = w_1 at *
 clear hgen
 refine (szMachine_yes (1048576) (HK0.out.same HB.out) (by omega) (by omega)).mono ?_
 rintro e w_2 ⟨rfl, hb⟩
 have hs2 : w_1.heap.size ≤ w_2.heap.size := hb.size
 replace HX0 := Lib.hid (((hb).block _ (by omega)).trans HX0.out)
 replace HX1 := Lib.hid (((hb).block _ (by omega)).trans HX1.out)
 replace HB := Lib.hid (HB.out.trans (hb.mono HB.out.size))
 clear hb
 obtain ⟨ea0, eb0, ec0, -⟩ := three_cells HX0.out
 obtain ⟨ea1, eb1, ec1, -⟩ := three_cells HX1.out
 go_wp2_with fail
 clear ea0 eb0 ec0 ea1 eb1 ec1
 refine (szMachine_yes (1048576 - x0.parts) (HK1.out.same HB.out) (by omega) (by omega)).mono ?_
 rintro e w_3 ⟨rfl, hb⟩
 have hs3 : w_2.heap.size ≤ w_3.heap.size := hb.size
 replace HX0 := Lib.hid (((hb).block _ (by omega)).trans HX0.out)
 replace HX1 := Lib.hid (((hb).block _ (by omega)).trans HX1.out)
 replace HB := Lib.hid (HB.out.trans (hb.mono HB.out.size))
 clear hb
 obtain ⟨ea0, eb0, ec0, -⟩ := three_cells HX0.out
 obtain ⟨ea1, eb1, ec1, -⟩ := three_cells HX1.out
 go_wp2_with fail
 clear ea0 eb0 ec0 ea1 eb1 ec1
 have CX0 := Lib.hid (three_cells HX0.out)
 have CX1 := Lib.hid (three_cells HX1.out)
 have HBd : Hid (Below w_3.heap.size w_3 w_3.drew) := Lib.hid (Below.refl _ _).drew
 refine wp_region_held_drew (S := fun w9 => w9.cell? ⟨w.heap.size, 0, none⟩ = some (.int .i64 x0.st) ∧ w9.cell? ⟨w.heap.size, 1, none⟩ = some (.slice p90 n90 c90) ∧ w9.cell? ⟨w.heap.size, 2, none⟩ = some (.slice q90 m90 d90) ∧ w9.cell? ⟨w.heap.size + 1, 0, none⟩ = some (.int .i64 x1.st) ∧ w9.cell? ⟨w.heap.size + 1, 1, none⟩ = some (.slice p91 n91 c91) ∧ w9.cell? ⟨w.heap.size + 1, 2, none⟩ = some (.slice q91 m91 d91)) (by kernel_rfl) ⟨cell_stay CX0.out.1 HBd.out, cell_stay CX0.out.2.1 HBd.out, cell_stay CX0.out.2.2.1 HBd.out, cell_stay CX1.out.1 HBd.out, cell_stay CX1.out.2.1 HBd.out, cell_stay CX1.out.2.2.1 HBd.out⟩ (fun hHeld => ?_)
 refine wpAnyH_take (i := 0) (v := ?v13) (by simp only [get9]; rfl) (by kernel_rfl) (by kernel_rfl) (by kernel_rfl) (by exact fun _ _ _ h => h) (Or.inl ⟨by rfl, fun w9 hS9 => ?hy13⟩) hHeld ?rest13
 case hy13 =>
  dsimp only at hS9
  obtain ⟨z0, z1, z2, z3, z4, z5⟩ := hS9
  go_simp
  try with_reducible rfl
 try simp only [Act.put, set9]
 refine wpAnyH_take (i := 2) (v := ?v14) (by simp only [get9]; rfl) (by kernel_rfl) (by kernel_rfl) (by kernel_rfl) (by exact fun _ _ _ h => h) (Or.inl ⟨by rfl, fun w9 hS9 => ?hy14⟩) hHeld ?rest14
 case hy14 =>
  dsimp only at hS9
  obtain ⟨z0, z1, z2, z3, z4, z5⟩ := hS9
  go_simp
  try with_reducible rfl
 try simp only [Act.put, set9]
 refine wpAnyH_ready (rs := [1]) (by kernel_rfl) (by simp) (AllReadyH.cons (by simp only [get9]; rfl) (fun K hK => ?_) AllReadyH.nil)
 go_simp
 refine (toMachine_any ((HK0.out.same HB.out).same HBd.out) (by omega)).mono ?_
 rintro e w1 ⟨b8, rfl, ho1, hb1⟩
 have HB1 : Hid (Below w_3.heap.size w_3 w1) := Lib.hid (HBd.out.trans (hb1.mono HBd.out.size))
 have HO8 := Lib.hid ho1.mac
 clear ho1
 clear hb1
 go_wp2_with fail
 refine hK.out _ _ ⟨cell_stay CX0.out.1 HB1.out, cell_stay CX0.out.2.1 HB1.out, cell_stay CX0.out.2.2.1 HB1.out, cell_stay CX1.out.1 HB1.out, cell_stay CX1.out.2.1 HB1.out, cell_stay CX1.out.2.2.1 HB1.out⟩ (fun hHeld => ?_)
 clear hK K
 try simp only [Act.put, set9]
 refine wpAnyH_ready (rs := [3]) (by kernel_rfl) (by simp) (AllReadyH.cons (by simp only [get9]; rfl) (fun K hK => ?_) AllReadyH.nil)
 go_simp
 refine (toMachine_any ((HK1.out.same HB.out).same HB1.out) (by omega)).mono ?_
 rintro e w2 ⟨b9, rfl, ho2, hb2⟩
 have HB2 : Hid (Below w_3.heap.size w_3 w2) := Lib.hid (HB1.out.trans (hb2.mono HB1.out.size))
 have HO9 := Lib.hid ho2.mac
 replace HO8 := Lib.hid (HO8.out.same hb2)
 clear ho2
 clear hb2
 go_wp2_with fail
 refine hK.out _ _ ⟨cell_stay CX0.out.1 HB2.out, cell_stay CX0.out.2.1 HB2.out, cell_stay CX0.out.2.2.1 HB2.out, cell_stay CX1.out.1 HB2.out, cell_stay CX1.out.2.1 HB2.out, cell_stay CX1.out.2.2.1 HB2.out⟩ (fun hHeld => ?_)
 clear hK K
 try simp only [Act.put, set9]
 refine wpAnyH_ready (rs := [4]) (by kernel_rfl) (by simp) (AllReadyH.cons (by simp only [get9]; rfl) (fun K hK => ?_) AllReadyH.nil)
 go_simp
 refine (specFollows_any HO8.out HO9.out (by omega) (by omega)).mono ?_
 rintro e w3 ⟨rfl, hb3⟩
 have HB3 : Hid (Below w_3.heap.size w_3 w3) := Lib.hid (HB2.out.trans (hb3.mono HB2.out.size))
 clear hb3
 go_wp2_with fail
 refine hK.out _ _ ⟨cell_stay CX0.out.1 HB3.out, cell_stay CX0.out.2.1 HB3.out, cell_stay CX0.out.2.2.1 HB3.out, cell_stay CX1.out.1 HB3.out, cell_stay CX1.out.2.1 HB3.out, cell_stay CX1.out.2.2.1 HB3.out⟩ (fun hHeld => ?_)
 clear hK K
 try simp only [Act.put, set9]
 refine wpAnyH_take (i := 5) (v := ?v15) (by simp only [get9]; rfl) (by kernel_rfl) (by kernel_rfl) (by kernel_rfl) (by exact fun _ _ _ h => h) (Or.inl ⟨by rfl, fun w9 hS9 => ?hy15⟩) hHeld ?rest15
 case hy15 =>
  dsimp only at hS9
  obtain ⟨z0, z1, z2, z3, z4, z5⟩ := hS9
  go_simp
  try with_reducible rfl
 try simp only [Act.put, set9]
 refine wpAnyH_done (by kernel_rfl) ?_ _
 obtain ⟨w_4, hwv⟩ : ∃ u, u = w3 := ⟨w3, rfl⟩
 subst hwv
 have hs4 : w_3.heap.size ≤ w_4.heap.size := HB3.out.size
 replace HX0 := Lib.hid (((HB3.out).block _ (by omega)).trans HX0.out)
 replace HX1 := Lib.hid (((HB3.out).block _ (by omega)).trans HX1.out)
 replace HB := Lib.hid (HB.out.trans (HB3.out.mono HB.out.size))
 clear CX0 CX1
 obtain ⟨ea0, eb0, ec0, -⟩ := three_cells HX0.out
 obtain ⟨ea1, eb1, ec1, -⟩ := three_cells HX1.out
 go_wp2_with fail
 clear ea0 eb0 ec0 ea1 eb1 ec1
 refine (toMachine_any (HK0.out.same HB.out) (by omega)).mono ?_
 rintro e w_5 ⟨b0, rfl, ho, hb⟩
 have hs5 : w_4.heap.size ≤ w_5.heap.size := hb.size
 have HO0 := Lib.hid ho
 replace HX0 := Lib.hid (((hb).block _ (by omega)).trans HX0.out)
 replace HX1 := Lib.hid (((hb).block _ (by omega)).trans HX1.out)
 replace HB := Lib.hid (HB.out.trans (hb.mono HB.out.size))
 clear ho hb
 obtain ⟨p0, n0, c0, q0, m0, d0, rfl⟩ := HO0.out.shape
 have HAL := Lib.hid (alloc_same w_5 (.cells #[.int .i64 x0.st, .slice p0 n0 c0, .slice q0 m0 d0] 27))
 have HX100 := Lib.hid (heap_alloc_new w_5 (.cells #[.int .i64 x0.st, .slice p0 n0 c0, .slice q0 m0 d0] 27 (0, 0)))
 change Hid ((World.alloc w_5 (.cells #[.int .i64 x0.st, .slice p0 n0 c0, .slice q0 m0 d0] 27)).heap[w_5.heap.size]? = _) at HX100
 replace HO0 := Lib.hid (HO0.out.same HAL.out)
 replace HX0 := Lib.hid ((HAL.out.block _ (by omega)).trans HX0.out)
 replace HX1 := Lib.hid ((HAL.out.block _ (by omega)).trans HX1.out)
 replace HB := Lib.hid (HB.out.trans (HAL.out.mono HB.out.size))
 have hs6 : w_5.heap.size < (World.alloc w_5 (.cells #[.int .i64 x0.st, .slice p0 n0 c0, .slice q0 m0 d0] 27)).heap.size := by simp
 obtain ⟨ea0, eb0, ec0, -⟩ := three_cells HX0.out
 obtain ⟨ea1, eb1, ec1, -⟩ := three_cells HX1.out
 obtain ⟨ea100, eb100, ec100, -⟩ := three_cells HX100.out
 clear HAL
 go_wp2_with fail
 clear ea0 eb0 ec0 ea1 eb1 ec1 ea100 eb100 ec100
 generalize hgen : World.alloc w_5 (.cells #[.int .i64 x0.st, .slice p0 n0 c0, .slice q0 m0 d0] 27) = w_6 at *
 clear hgen
 refine (toMachine_any (HK1.out.same HB.out) (by omega)).mono ?_
 rintro e w_7 ⟨b1, rfl, ho, hb⟩
 have hs7 : w_6.heap.size ≤ w_7.heap.size := hb.size
 have HO1 := Lib.hid ho
 replace HO0 := Lib.hid (HO0.out.same hb)
 replace HX0 := Lib.hid (((hb).block _ (by omega)).trans HX0.out)
 replace HX1 := Lib.hid (((hb).block _ (by omega)).trans HX1.out)
 replace HX100 := Lib.hid (((hb).block _ (by omega)).trans HX100.out)
 replace HB := Lib.hid (HB.out.trans (hb.mono HB.out.size))
 clear ho hb
 obtain ⟨p1, n1, c1, q1, m1, d1, rfl⟩ := HO1.out.shape
 have HAL := Lib.hid (alloc_same w_7 (.cells #[.int .i64 x1.st, .slice p1 n1 c1, .slice q1 m1 d1] 27))
 have HX101 := Lib.hid (heap_alloc_new w_7 (.cells #[.int .i64 x1.st, .slice p1 n1 c1, .slice q1 m1 d1] 27 (0, 0)))
 change Hid ((World.alloc w_7 (.cells #[.int .i64 x1.st, .slice p1 n1 c1, .slice q1 m1 d1] 27)).heap[w_7.heap.size]? = _) at HX101
 replace HO0 := Lib.hid (HO0.out.same HAL.out)
 replace HO1 := Lib.hid (HO1.out.same HAL.out)
 replace HX0 := Lib.hid ((HAL.out.block _ (by omega)).trans HX0.out)
 replace HX1 := Lib.hid ((HAL.out.block _ (by omega)).trans HX1.out)
 replace HX100 := Lib.hid ((HAL.out.block _ (by omega)).trans HX100.out)
 replace HB := Lib.hid (HB.out.trans (HAL.out.mono HB.out.size))
 have hs8 : w_7.heap.size < (World.alloc w_7 (.cells #[.int .i64 x1.st, .slice p1 n1 c1, .slice q1 m1 d1] 27)).heap.size := by simp
 obtain ⟨ea0, eb0, ec0, -⟩ := three_cells HX0.out
 obtain ⟨ea1, eb1, ec1, -⟩ := three_cells HX1.out
 obtain ⟨ea100, eb100, ec100, -⟩ := three_cells HX100.out
 obtain ⟨ea101, eb101, ec101, -⟩ := three_cells HX101.out
 clear HAL
 go_wp2_with fail
 clear ea0 eb0 ec0 ea1 eb1 ec1 ea100 eb100 ec100 ea101 eb101 ec101
 generalize hgen : World.alloc w_7 (.cells #[.int .i64 x1.st, .slice p1 n1 c1, .slice q1 m1 d1] 27) = w_8 at *
 clear hgen
 refine (follows_any HO0.out.mac HO1.out.mac (fun z hz => (HF0.out.2 z hz).2) (fun z hz => (HF1.out.2 z hz).2) (by omega) (by omega)).mono ?_
 rintro e w_9 ⟨rfl, hb⟩
 have hs9 : w_8.heap.size ≤ w_9.heap.size := hb.size
 replace HO0 := Lib.hid (HO0.out.same hb)
 replace HO1 := Lib.hid (HO1.out.same hb)
 replace HX0 := Lib.hid (((hb).block _ (by omega)).trans HX0.out)
 replace HX1 := Lib.hid (((hb).block _ (by omega)).trans HX1.out)
 replace HX100 := Lib.hid (((hb).block _ (by omega)).trans HX100.out)
 replace HX101 := Lib.hid (((hb).block _ (by omega)).trans HX101.out)
 replace HB := Lib.hid (HB.out.trans (hb.mono HB.out.size))
 clear hb
 obtain ⟨ea0, eb0, ec0, -⟩ := three_cells HX0.out
 obtain ⟨ea1, eb1, ec1, -⟩ := three_cells HX1.out
 obtain ⟨ea100, eb100, ec100, -⟩ := three_cells HX100.out
 obtain ⟨ea101, eb101, ec101, -⟩ := three_cells HX101.out
 go_wp2_with fail
 clear ea0 eb0 ec0 ea1 eb1 ec1 ea100 eb100 ec100 ea101 eb101 ec101
 have CX100 := Lib.hid (three_cells HX100.out)
 have CX0 := Lib.hid (three_cells HX0.out)
 have HBd : Hid (Below w_9.heap.size w_9 w_9.drew) := Lib.hid (Below.refl _ _).drew
 refine wp_region_held_drew (S := fun w9 => w9.cell? ⟨w_5.heap.size, 0, none⟩ = some (.int .i64 x0.st) ∧ w9.cell? ⟨w_5.heap.size, 1, none⟩ = some (.slice p0 n0 c0) ∧ w9.cell? ⟨w_5.heap.size, 2, none⟩ = some (.slice q0 m0 d0) ∧ w9.cell? ⟨w.heap.size, 0, none⟩ = some (.int .i64 x0.st) ∧ w9.cell? ⟨w.heap.size, 1, none⟩ = some (.slice p90 n90 c90) ∧ w9.cell? ⟨w.heap.size, 2, none⟩ = some (.slice q90 m90 d90)) (by kernel_rfl) ⟨cell_stay CX100.out.1 HBd.out, cell_stay CX100.out.2.1 HBd.out, cell_stay CX100.out.2.2.1 HBd.out, cell_stay CX0.out.1 HBd.out, cell_stay CX0.out.2.1 HBd.out, cell_stay CX0.out.2.2.1 HBd.out⟩ (fun hHeld => ?_)
 refine wpAnyH_take (i := 0) (v := ?v16) (by simp only [get9]; rfl) (by kernel_rfl) (by kernel_rfl) (by kernel_rfl) (by exact fun _ _ _ h => h) (Or.inl ⟨by rfl, fun w9 hS9 => ?hy16⟩) hHeld ?rest16
 case hy16 =>
  dsimp only at hS9
  obtain ⟨z0, z1, z2, z3, z4, z5⟩ := hS9
  go_simp
  try with_reducible rfl
 try simp only [Act.put, set9]
 refine wpAnyH_take (i := 1) (v := ?v17) (by simp only [get9]; rfl) (by kernel_rfl) (by kernel_rfl) (by kernel_rfl) (by exact fun _ _ _ h => h) (Or.inl ⟨by rfl, fun w9 hS9 => ?hy17⟩) hHeld ?rest17
 case hy17 =>
  dsimp only at hS9
  obtain ⟨z0, z1, z2, z3, z4, z5⟩ := hS9
  go_simp
  try with_reducible rfl
 try simp only [Act.put, set9]
 refine wpAnyH_ready (rs := [2]) (by kernel_rfl) (by simp) (AllReadyH.cons (by simp only [get9]; rfl) (fun K hK => ?_) AllReadyH.nil)
 go_simp
 refine (toMachine_any ((HK0.out.same HB.out).same HBd.out) (by omega)).mono ?_
 rintro e w1 ⟨b9, rfl, ho1, hb1⟩
 have HB1 : Hid (Below w_9.heap.size w_9 w1) := Lib.hid (HBd.out.trans (hb1.mono HBd.out.size))
 have HO9 := Lib.hid ho1.mac
 clear ho1
 clear hb1
 go_wp2_with fail
 refine hK.out _ _ ⟨cell_stay CX100.out.1 HB1.out, cell_stay CX100.out.2.1 HB1.out, cell_stay CX100.out.2.2.1 HB1.out, cell_stay CX0.out.1 HB1.out, cell_stay CX0.out.2.1 HB1.out, cell_stay CX0.out.2.2.1 HB1.out⟩ (fun hHeld => ?_)
 clear hK K
 try simp only [Act.put, set9]
 refine wpAnyH_ready (rs := [3]) (by kernel_rfl) (by simp) (AllReadyH.cons (by simp only [get9]; rfl) (fun K hK => ?_) AllReadyH.nil)
 go_simp
 refine (eqMachine_yes (HO0.out.mac.same HB1.out) HO9.out).mono ?_
 rintro e w2 ⟨rfl, hb2⟩
 have HB2 : Hid (Below w_9.heap.size w_9 w2) := Lib.hid (HB1.out.trans (hb2.mono HB1.out.size))
 clear hb2
 go_wp2_with fail
 refine hK.out _ _ ⟨cell_stay CX100.out.1 HB2.out, cell_stay CX100.out.2.1 HB2.out, cell_stay CX100.out.2.2.1 HB2.out, cell_stay CX0.out.1 HB2.out, cell_stay CX0.out.2.1 HB2.out, cell_stay CX0.out.2.2.1 HB2.out⟩ (fun hHeld => ?_)
 clear hK K
 try simp only [Act.put, set9]
 refine wpAnyH_take (i := 4) (v := ?v18) (by simp only [get9]; rfl) (by kernel_rfl) (by kernel_rfl) (by kernel_rfl) (by exact fun _ _ _ h => h) (Or.inl ⟨by rfl, fun w9 hS9 => ?hy18⟩) hHeld ?rest18
 case hy18 =>
  dsimp only at hS9
  obtain ⟨z0, z1, z2, z3, z4, z5⟩ := hS9
  go_simp
  try with_reducible rfl
 try simp only [Act.put, set9]
 refine wpAnyH_done (by kernel_rfl) ?_ _
 obtain ⟨w_10, hwv⟩ : ∃ u, u = w2 := ⟨w2, rfl⟩
 subst hwv
 have hs10 : w_9.heap.size ≤ w_10.heap.size := HB2.out.size
 replace HO0 := Lib.hid (HO0.out.same HB2.out)
 replace HO1 := Lib.hid (HO1.out.same HB2.out)
 replace HX0 := Lib.hid (((HB2.out).block _ (by omega)).trans HX0.out)
 replace HX1 := Lib.hid (((HB2.out).block _ (by omega)).trans HX1.out)
 replace HX100 := Lib.hid (((HB2.out).block _ (by omega)).trans HX100.out)
 replace HX101 := Lib.hid (((HB2.out).block _ (by omega)).trans HX101.out)
 replace HB := Lib.hid (HB.out.trans (HB2.out.mono HB.out.size))
 clear CX100 CX0
 obtain ⟨ea0, eb0, ec0, -⟩ := three_cells HX0.out
 obtain ⟨ea1, eb1, ec1, -⟩ := three_cells HX1.out
 obtain ⟨ea100, eb100, ec100, -⟩ := three_cells HX100.out
 obtain ⟨ea101, eb101, ec101, -⟩ := three_cells HX101.out
 go_wp2_with fail
 clear ea0 eb0 ec0 ea1 eb1 ec1 ea100 eb100 ec100 ea101 eb101 ec101
 have CX101 := Lib.hid (three_cells HX101.out)
 have CX1 := Lib.hid (three_cells HX1.out)
 have HBd : Hid (Below w_10.heap.size w_10 w_10.drew) := Lib.hid (Below.refl _ _).drew
 refine wp_region_held_drew (S := fun w9 => w9.cell? ⟨w_7.heap.size, 0, none⟩ = some (.int .i64 x1.st) ∧ w9.cell? ⟨w_7.heap.size, 1, none⟩ = some (.slice p1 n1 c1) ∧ w9.cell? ⟨w_7.heap.size, 2, none⟩ = some (.slice q1 m1 d1) ∧ w9.cell? ⟨w.heap.size + 1, 0, none⟩ = some (.int .i64 x1.st) ∧ w9.cell? ⟨w.heap.size + 1, 1, none⟩ = some (.slice p91 n91 c91) ∧ w9.cell? ⟨w.heap.size + 1, 2, none⟩ = some (.slice q91 m91 d91)) (by kernel_rfl) ⟨cell_stay CX101.out.1 HBd.out, cell_stay CX101.out.2.1 HBd.out, cell_stay CX101.out.2.2.1 HBd.out, cell_stay CX1.out.1 HBd.out, cell_stay CX1.out.2.1 HBd.out, cell_stay CX1.out.2.2.1 HBd.out⟩ (fun hHeld => ?_)
 refine wpAnyH_take (i := 0) (v := ?v19) (by simp only [get9]; rfl) (by kernel_rfl) (by kernel_rfl) (by kernel_rfl) (by exact fun _ _ _ h => h) (Or.inl ⟨by rfl, fun w9 hS9 => ?hy19⟩) hHeld ?rest19
 case hy19 =>
  dsimp only at hS9
  obtain ⟨z0, z1, z2, z3, z4, z5⟩ := hS9
  go_simp
  try with_reducible rfl
 try simp only [Act.put, set9]
 refine wpAnyH_take (i := 1) (v := ?v20) (by simp only [get9]; rfl) (by kernel_rfl) (by kernel_rfl) (by kernel_rfl) (by exact fun _ _ _ h => h) (Or.inl ⟨by rfl, fun w9 hS9 => ?hy20⟩) hHeld ?rest20
 case hy20 =>
  dsimp only at hS9
  obtain ⟨z0, z1, z2, z3, z4, z5⟩ := hS9
  go_simp
  try with_reducible rfl
 try simp only [Act.put, set9]
 refine wpAnyH_ready (rs := [2]) (by kernel_rfl) (by simp) (AllReadyH.cons (by simp only [get9]; rfl) (fun K hK => ?_) AllReadyH.nil)
 go_simp
 refine (toMachine_any ((HK1.out.same HB.out).same HBd.out) (by omega)).mono ?_
 rintro e w1 ⟨b9, rfl, ho1, hb1⟩
 have HB1 : Hid (Below w_10.heap.size w_10 w1) := Lib.hid (HBd.out.trans (hb1.mono HBd.out.size))
 have HO9 := Lib.hid ho1.mac
 clear ho1
 clear hb1
 go_wp2_with fail
 refine hK.out _ _ ⟨cell_stay CX101.out.1 HB1.out, cell_stay CX101.out.2.1 HB1.out, cell_stay CX101.out.2.2.1 HB1.out, cell_stay CX1.out.1 HB1.out, cell_stay CX1.out.2.1 HB1.out, cell_stay CX1.out.2.2.1 HB1.out⟩ (fun hHeld => ?_)
 clear hK K
 try simp only [Act.put, set9]
 refine wpAnyH_ready (rs := [3]) (by kernel_rfl) (by simp) (AllReadyH.cons (by simp only [get9]; rfl) (fun K hK => ?_) AllReadyH.nil)
 go_simp
 refine (eqMachine_yes (HO1.out.mac.same HB1.out) HO9.out).mono ?_
 rintro e w2 ⟨rfl, hb2⟩
 have HB2 : Hid (Below w_10.heap.size w_10 w2) := Lib.hid (HB1.out.trans (hb2.mono HB1.out.size))
 clear hb2
 go_wp2_with fail
 refine hK.out _ _ ⟨cell_stay CX101.out.1 HB2.out, cell_stay CX101.out.2.1 HB2.out, cell_stay CX101.out.2.2.1 HB2.out, cell_stay CX1.out.1 HB2.out, cell_stay CX1.out.2.1 HB2.out, cell_stay CX1.out.2.2.1 HB2.out⟩ (fun hHeld => ?_)
 clear hK K
 try simp only [Act.put, set9]
 refine wpAnyH_take (i := 4) (v := ?v21) (by simp only [get9]; rfl) (by kernel_rfl) (by kernel_rfl) (by kernel_rfl) (by exact fun _ _ _ h => h) (Or.inl ⟨by rfl, fun w9 hS9 => ?hy21⟩) hHeld ?rest21
 case hy21 =>
  dsimp only at hS9
  obtain ⟨z0, z1, z2, z3, z4, z5⟩ := hS9
  go_simp
  try with_reducible rfl
 try simp only [Act.put, set9]
 refine wpAnyH_done (by kernel_rfl) ?_ _
 obtain ⟨w_11, hwv⟩ : ∃ u, u = w2 := ⟨w2, rfl⟩
 subst hwv
 have hs11 : w_10.heap.size ≤ w_11.heap.size := HB2.out.size
 replace HO0 := Lib.hid (HO0.out.same HB2.out)
 replace HO1 := Lib.hid (HO1.out.same HB2.out)
 replace HX0 := Lib.hid (((HB2.out).block _ (by omega)).trans HX0.out)
 replace HX1 := Lib.hid (((HB2.out).block _ (by omega)).trans HX1.out)
 replace HX100 := Lib.hid (((HB2.out).block _ (by omega)).trans HX100.out)
 replace HX101 := Lib.hid (((HB2.out).block _ (by omega)).trans HX101.out)
 replace HB := Lib.hid (HB.out.trans (HB2.out.mono HB.out.size))
 clear CX101 CX1
 obtain ⟨ea0, eb0, ec0, -⟩ := three_cells HX0.out
 obtain ⟨ea1, eb1, ec1, -⟩ := three_cells HX1.out
 obtain ⟨ea100, eb100, ec100, -⟩ := three_cells HX100.out
 obtain ⟨ea101, eb101, ec101, -⟩ := three_cells HX101.out
 go_wp2_with fail
 clear ea0 eb0 ec0 ea1 eb1 ec1 ea100 eb100 ec100 ea101 eb101 ec101
 go_ret
 exact ⟨rfl, HB.out⟩

set_option maxRecDepth 100000 in
theorem lifted (os : Os) (started : os.Started) (H : Type) (enc : TypeId × Value → H) :
  ReturnsInHanded {} Try.checked os 11 .any (Rows.fnExactFollowsSpec.pre6 enc Try.prog Try.f11 Rows.fnExactFollowsRow.domain false) (Rows.fnExactFollowsSpec.post enc Try.prog Try.f11 false true false false) := by
 refine returnsInHanded_of_change (C := Try.checked) own started (by kernel_rfl) Try.func11
  (ChangeSpec.witness6 (enc := enc) (C := Try.checked) false ⟨#[], #[.agg #[.int .i64 0, .slice none 0 0, .slice none 0 0], .agg #[.int .i64 0, .slice none 0 0, .slice none 0 0]], []⟩ 8 (by kernel_rfl) (by kernel_rfl) (by kernel_rfl) (by kernel_rfl)) ?_
 intro W base args ds gs before hval0 hW hcnd _
 have hval : ∀ (j : Nat) t v, Try.f11.params[j]? = some t → args[j]? = some v → Value.okWide Try.prog W .any base t v := hval0
 have hW' := hW
 obtain ⟨p, q, hA0, hV, rfl, hfz, hnd⟩ := hW
 have hA : DataW.TrodAll enc Try.prog W 0 (fun _ => true) true Try.f11.params.toList args.toList ds p := hA0
 rw [Try.params11] at hA hval
 obtain ⟨v0, vs0, d0, ds0, p0, q0, hargs, rfl, rfl, h0, r0⟩ := trodAll_cons hA
 obtain ⟨v1, vs1, d1, ds1, p1, q1, rfl, rfl, rfl, h1, r1⟩ := trodAll_cons r0
 obtain ⟨rfl, rfl, rfl⟩ := trodAll_nil r1
 obtain rfl : args = #[v0, v1] := by cases args; simp_all
 obtain ⟨rfl, rfl⟩ := trodVars_none hV
 have h0k := h0
 have hlt0 : ∀ x ∈ p0, x.block < W.heap.size := fun x hx => by simpa using hW'.lt x (by simp [hx])
 obtain ⟨x0, K0, F0⟩ := open_mac Try.underlying44 (by kernel_rfl) (by kernel_rfl) Try.underlying3 Try.underlying24 Try.underlying4 (by kernel_rfl) Try.underlying42 Try.underlying119 (by kernel_rfl) (by kernel_rfl) Try.underlying3 Try.underlying4 Try.underlying3 Try.underlying3 (hval 0 44 v0 rfl rfl) h0
 have h1k := h1
 have hlt1 : ∀ x ∈ p1, x.block < W.heap.size := fun x hx => by simpa using hW'.lt x (by simp [hx])
 obtain ⟨x1, K1, F1⟩ := open_mac Try.underlying44 (by kernel_rfl) (by kernel_rfl) Try.underlying3 Try.underlying24 Try.underlying4 (by kernel_rfl) Try.underlying42 Try.underlying119 (by kernel_rfl) (by kernel_rfl) Try.underlying3 Try.underlying4 Try.underlying3 Try.underlying3 (hval 1 44 v1 rfl rfl) h1
 clear hA0 hval0
 simp only [List.append_nil] at hW'
 refine (walk v0 x0 v1 x1 W K0 F0 K1 F1).mono fun e W' ⟨he, hb⟩ => ?_
 subst he
 exact ⟨_, rfl, ⟨_, _, _, [], _, [], hW', (trodAll_cons_mk (shut_bool Try.underlying4 _) trodAll_mk0), (trodAll_cons_mk (Below.trod laidOut (by kernel_rfl) (of_decide_eq_true (by kernel_rfl)) h0k hb hlt0) (trodAll_cons_mk (Below.trod laidOut (by kernel_rfl) (of_decide_eq_true (by kernel_rfl)) h1k hb hlt1) trodAll_mk0)), rfl, hb.frame _, fun h => by cases h⟩⟩

theorem over : Rows.fnExactFollowsRow.holds Try.pinned (OpenSpec.ofChange Rows.fnExactFollowsSpec) :=
 OpenClaim.holds_of_wide 11 Try.f11 rfl rfl rfl rfl rfl rfl rfl ⟨rfl, rfl, rfl, rfl, rfl⟩ rfl rfl rfl rfl rfl (by kernel_rfl) Try.func11 (by kernel_rfl)
  (of_decide_eq_true (by kernel_rfl)) (by unfold Func.isWrapper; first | (rw [if_pos (by decide +kernel)]; kernel_rfl) | (rw [if_neg (by decide +kernel)]; exact ⟨rfl, rfl⟩))
  (fun os started H enc _ => lifted os started H enc)

theorem proved : Rows.FnExactFollowsSaid :=
 over
end Go.Proofs.Ytckmgbobkffabaa.fnExactFollows
