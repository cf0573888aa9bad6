/- For every machine, state and direction: the messages of its moves, as in the model. -/
import Derived.Test.YtaaogdhkehkamaaIntS
import Derived.Test.YtaaogdhkehkamaaMacT
import Derived.Test.YtaaogdhkehkamaaMf
import Derived.Test.YtaaogdhkehkamaaMfM
import Derived.Test.YtaaogdhkehkamaaOpenM
import Derived.Test.YtaaogdhkehkamaaPm
import Derived.Test.YtaaogdhkehkamaaAp
import Derived.Test.YtaaogdhkehkamaaOpen
import Derived.WalkKit
import Derived.Deep.RegionHeld3
import Derived.ProofKit
import Derived.OpenShut
namespace Go.Proofs.Ytaaogdhkehkamaa.fnExactMovesFrom
open Go.ChangeShapes Go.WideShapes Go.ChangeAt Go.RowKit Go.Lib
open Go.ChangeMaps (open_string shut_string)
set_option linter.unusedVariables false

theorem own : ownKnob Try.prog.godebug = none := by kernel_rfl
set_option linter.unusedSimpArgs false

set_option maxHeartbeats 4000000 in
set_option maxRecDepth 100000 in
theorem walk (v0 : Value) (x0 : Mac) (a1 : Int) (w1 : (Lit.int .i64 a1).wf = true) (a2 : Bool) (w : World) (K0 : MacW w v0 x0) (F0 : x0.wf) :
    Calls Try.prog 6 #[v0, .int .i64 a1, .bool a2] w fun e w' => e = .returned (.bool true) ∧ Below w.heap.size w w' := by
  obtain ⟨p90, n90, c90, q90, m90, d90, rfl⟩ := K0.shape
  by_cases hbig0 : 1048576 < x0.parts
  · have HB := Lib.hid (alloc_same w (.cells #[.int .i64 x0.st, .slice p90 n90 c90, .slice q90 m90 d90] 41))
    have HX0 := Lib.hid (heap_alloc_new w (.cells #[.int .i64 x0.st, .slice p90 n90 c90, .slice q90 m90 d90] 41 (0, 0)))
    change Hid ((World.alloc w (.cells #[.int .i64 x0.st, .slice p90 n90 c90, .slice q90 m90 d90] 41)).heap[w.heap.size]? = _) at HX0
    have hs1 : w.heap.size + 1 ≤ (World.alloc w (.cells #[.int .i64 x0.st, .slice p90 n90 c90, .slice q90 m90 d90] 41)).heap.size := by simp
    go_enter Try.func6, Try.ntmps6
    obtain ⟨ea0, eb0, ec0, -⟩ := three_cells HX0.out
    go_wp2_with fail
    clear ea0 eb0 ec0
    generalize hgen : (World.alloc w (.cells #[.int .i64 x0.st, .slice p90 n90 c90, .slice q90 m90 d90] 41)) = w_1 at *
    clear hgen
    refine (szMachine_no (1048576) (K0.same HB.out) (by omega) (by omega) (by omega)).mono ?_
    rintro e w' ⟨rfl, hb⟩
    have HB2 := Lib.hid (HB.out.trans (hb.mono HB.out.size))
    go_wp2_with fail
    go_ret
    exact ⟨rfl, HB2.out⟩
  have HK0 := Lib.hid K0
  have HF0 := Lib.hid F0
  have hn0 : x0.parts ≤ 1048576 := by omega
  have hmn0 : x0.many ≤ 4194304 := by unfold Mac.many; unfold Mac.parts at hn0; omega
  have hmv0 : x0.moves.length ≤ 1048576 := by unfold Mac.parts at hn0; omega
  have hdm0 := dualM_many x0
  have hdp0 := dualM_parts x0
  clear K0 F0
  have HB := Lib.hid (alloc_same w (.cells #[.int .i64 x0.st, .slice p90 n90 c90, .slice q90 m90 d90] 41))
  have HX0 := Lib.hid (heap_alloc_new w (.cells #[.int .i64 x0.st, .slice p90 n90 c90, .slice q90 m90 d90] 41 (0, 0)))
  change Hid ((World.alloc w (.cells #[.int .i64 x0.st, .slice p90 n90 c90, .slice q90 m90 d90] 41)).heap[w.heap.size]? = _) at HX0
  have hs1 : w.heap.size + 1 ≤ (World.alloc w (.cells #[.int .i64 x0.st, .slice p90 n90 c90, .slice q90 m90 d90] 41)).heap.size := by simp
  go_enter Try.func6, Try.ntmps6
  obtain ⟨ea0, eb0, ec0, -⟩ := three_cells HX0.out
  go_wp2_with fail
  clear ea0 eb0 ec0
  generalize hgen : (World.alloc w (.cells #[.int .i64 x0.st, .slice p90 n90 c90, .slice q90 m90 d90] 41)) = w_1 at *
  clear hgen
  refine (szMachine_yes (1048576) (HK0.out.same HB.out) (by omega) (by omega)).mono ?_
  rintro e w_2 ⟨rfl, hb⟩
  have hs2 : w_1.heap.size ≤ w_2.heap.size := hb.size
  replace HX0 := Lib.hid (((hb).block _ (by omega)).trans HX0.out)
  replace HB := Lib.hid (HB.out.trans (hb.mono HB.out.size))
  clear hb
  obtain ⟨ea0, eb0, ec0, -⟩ := three_cells HX0.out
  go_wp2_with fail
  clear ea0 eb0 ec0
  refine (toMachine_any (HK0.out.same HB.out) (by omega)).mono ?_
  rintro e w_3 ⟨b0, rfl, ho, hb⟩
  have hs3 : w_2.heap.size ≤ w_3.heap.size := hb.size
  have HO0 := Lib.hid ho
  replace HX0 := Lib.hid (((hb).block _ (by omega)).trans HX0.out)
  replace HB := Lib.hid (HB.out.trans (hb.mono HB.out.size))
  clear ho hb
  obtain ⟨ea0, eb0, ec0, -⟩ := three_cells HX0.out
  go_wp2_with fail
  clear ea0 eb0 ec0
  refine (specMovesFrom_any a1 a2 HO0.out.mac (by omega)).mono ?_
  rintro e w_4 ⟨b1, m1, d1, rfl, ho, hb⟩
  have hm1 : m1 ≤ 1000000000 := by have hl := ho.len;   have := movesFrom_len x0 a1 a2; omega
  have hs4 : w_3.heap.size ≤ w_4.heap.size := hb.size
  have HS1 := Lib.hid ho.span
  have HO1 := Lib.hid ho
  replace HO0 := Lib.hid (HO0.out.same hb)
  replace HX0 := Lib.hid (((hb).block _ (by omega)).trans HX0.out)
  replace HB := Lib.hid (HB.out.trans (hb.mono HB.out.size))
  clear ho hb
  obtain ⟨ea0, eb0, ec0, -⟩ := three_cells HX0.out
  go_wp2_with fail
  clear ea0 eb0 ec0
  refine (toMachine_any (HK0.out.same HB.out) (by omega)).mono ?_
  rintro e w_5 ⟨b2, rfl, ho, hb⟩
  have hs5 : w_4.heap.size ≤ w_5.heap.size := hb.size
  have HO2 := Lib.hid ho
  replace HO0 := Lib.hid (HO0.out.same hb)
  replace HO1 := Lib.hid (HO1.out.same hb)
  replace HX0 := Lib.hid (((hb).block _ (by omega)).trans HX0.out)
  replace HB := Lib.hid (HB.out.trans (hb.mono HB.out.size))
  clear ho hb
  obtain ⟨p2, n2, c2, q2, m2, d2, rfl⟩ := HO2.out.shape
  have HAL := Lib.hid (alloc_same w_5 (.cells #[.int .i64 x0.st, .slice p2 n2 c2, .slice q2 m2 d2] 27))
  have HX102 := Lib.hid (heap_alloc_new w_5 (.cells #[.int .i64 x0.st, .slice p2 n2 c2, .slice q2 m2 d2] 27 (0, 0)))
  change Hid ((World.alloc w_5 (.cells #[.int .i64 x0.st, .slice p2 n2 c2, .slice q2 m2 d2] 27)).heap[w_5.heap.size]? = _) at HX102
  replace HO0 := Lib.hid (HO0.out.same HAL.out)
  replace HO1 := Lib.hid (HO1.out.same HAL.out)
  replace HO2 := Lib.hid (HO2.out.same HAL.out)
  replace HX0 := Lib.hid ((HAL.out.block _ (by omega)).trans HX0.out)
  replace HB := Lib.hid (HB.out.trans (HAL.out.mono HB.out.size))
  have hs6 : w_5.heap.size < (World.alloc w_5 (.cells #[.int .i64 x0.st, .slice p2 n2 c2, .slice q2 m2 d2] 27)).heap.size := by simp
  obtain ⟨ea0, eb0, ec0, -⟩ := three_cells HX0.out
  obtain ⟨ea102, eb102, ec102, -⟩ := three_cells HX102.out
  clear HAL
  go_wp2_with fail
  clear ea0 eb0 ec0 ea102 eb102 ec102
  generalize hgen : World.alloc w_5 (.cells #[.int .i64 x0.st, .slice p2 n2 c2, .slice q2 m2 d2] 27) = w_6 at *
  clear hgen
  refine (movesFrom_any a1 a2 HO2.out.mac (by omega)).mono ?_
  rintro e w_7 ⟨b3, m3, d3, rfl, ho, hb⟩
  have hm3 : m3 ≤ 1000000000 := by have hl := ho.len;   have := movesFrom_len x0 a1 a2; omega
  have hs7 : w_6.heap.size ≤ w_7.heap.size := hb.size
  have HS3 := Lib.hid ho.span
  have HO3 := Lib.hid ho
  replace HO0 := Lib.hid (HO0.out.same hb)
  replace HO1 := Lib.hid (HO1.out.same hb)
  replace HO2 := Lib.hid (HO2.out.same hb)
  replace HX0 := Lib.hid (((hb).block _ (by omega)).trans HX0.out)
  replace HX102 := Lib.hid (((hb).block _ (by omega)).trans HX102.out)
  replace HB := Lib.hid (HB.out.trans (hb.mono HB.out.size))
  clear ho hb
  obtain ⟨ea0, eb0, ec0, -⟩ := three_cells HX0.out
  obtain ⟨ea102, eb102, ec102, -⟩ := three_cells HX102.out
  go_wp2_with fail
  clear ea0 eb0 ec0 ea102 eb102 ec102
  refine (eqIntS_yes b3 b1 m3 m1 d3 d1 (movesFrom x0 a1 a2) _ HO3.out.nums HO1.out.nums).mono ?_
  rintro e w_8 ⟨rfl, hb⟩
  have hs8 : w_7.heap.size ≤ w_8.heap.size := hb.size
  replace HO0 := Lib.hid (HO0.out.same hb)
  replace HO1 := Lib.hid (HO1.out.same hb)
  replace HO2 := Lib.hid (HO2.out.same hb)
  replace HO3 := Lib.hid (HO3.out.same hb)
  replace HX0 := Lib.hid (((hb).block _ (by omega)).trans HX0.out)
  replace HX102 := Lib.hid (((hb).block _ (by omega)).trans HX102.out)
  replace HB := Lib.hid (HB.out.trans (hb.mono HB.out.size))
  clear hb
  obtain ⟨ea0, eb0, ec0, -⟩ := three_cells HX0.out
  obtain ⟨ea102, eb102, ec102, -⟩ := three_cells HX102.out
  go_wp2_with fail
  clear ea0 eb0 ec0 ea102 eb102 ec102
  have CX102 := Lib.hid (three_cells HX102.out)
  have CX0 := Lib.hid (three_cells HX0.out)
  have HBd : Hid (Below w_8.heap.size w_8 w_8.drew) := Lib.hid (Below.refl _ _).drew
  refine wp_region_held_drew (S := fun w9 => w9.cell? ⟨w_5.heap.size, 0, none⟩ = some (.int .i64 x0.st) ∧ w9.cell? ⟨w_5.heap.size, 1, none⟩ = some (.slice p2 n2 c2) ∧ w9.cell? ⟨w_5.heap.size, 2, none⟩ = some (.slice q2 m2 d2) ∧ w9.cell? ⟨w.heap.size, 0, none⟩ = some (.int .i64 x0.st) ∧ w9.cell? ⟨w.heap.size, 1, none⟩ = some (.slice p90 n90 c90) ∧ w9.cell? ⟨w.heap.size, 2, none⟩ = some (.slice q90 m90 d90)) (by kernel_rfl) ⟨cell_stay CX102.out.1 HBd.out, cell_stay CX102.out.2.1 HBd.out, cell_stay CX102.out.2.2.1 HBd.out, cell_stay CX0.out.1 HBd.out, cell_stay CX0.out.2.1 HBd.out, cell_stay CX0.out.2.2.1 HBd.out⟩ (fun hHeld => ?_)
  refine wpAnyH_take (i := 0) (v := ?v13) (by simp only [List.getElem?_toArray, List.getElem?_cons_succ, List.getElem?_cons_zero]; rfl) (by kernel_rfl) (by kernel_rfl) (by kernel_rfl) (by exact fun _ _ _ h => h) (Or.inl ⟨by rfl, fun w9 hS9 => ?hy13⟩) hHeld ?rest13
  case hy13 =>
    dsimp only at hS9
    obtain ⟨z0, z1, z2, z3, z4, z5⟩ := hS9
    go_simp
    try with_reducible rfl
  try simp only [Act.put, List.setIfInBounds_toArray, List.set_cons_zero, List.set_cons_succ]
  refine wpAnyH_take (i := 1) (v := ?v14) (by simp only [List.getElem?_toArray, List.getElem?_cons_succ, List.getElem?_cons_zero]; rfl) (by kernel_rfl) (by kernel_rfl) (by kernel_rfl) (by exact fun _ _ _ h => h) (Or.inl ⟨by rfl, fun w9 hS9 => ?hy14⟩) hHeld ?rest14
  case hy14 =>
    dsimp only at hS9
    obtain ⟨z0, z1, z2, z3, z4, z5⟩ := hS9
    go_simp
    try with_reducible rfl
  try simp only [Act.put, List.setIfInBounds_toArray, List.set_cons_zero, List.set_cons_succ]
  refine wpAnyH_ready (rs := [2]) (by kernel_rfl) (by simp) (AllReadyH.cons (by simp only [List.getElem?_toArray, List.getElem?_cons_succ, List.getElem?_cons_zero]; rfl) (fun K hK => ?_) AllReadyH.nil)
  go_simp
  refine (toMachine_any ((HK0.out.same HB.out).same HBd.out) (by omega)).mono ?_
  rintro e w1 ⟨b9, rfl, ho1, hb1⟩
  have HB1 : Hid (Below w_8.heap.size w_8 w1) := Lib.hid (HBd.out.trans (hb1.mono HBd.out.size))
  have HO9 := Lib.hid ho1.mac
  clear ho1
  clear hb1
  go_wp2_with fail
  refine hK.out _ _ ⟨cell_stay CX102.out.1 HB1.out, cell_stay CX102.out.2.1 HB1.out, cell_stay CX102.out.2.2.1 HB1.out, cell_stay CX0.out.1 HB1.out, cell_stay CX0.out.2.1 HB1.out, cell_stay CX0.out.2.2.1 HB1.out⟩ (fun hHeld => ?_)
  clear hK K
  try simp only [Act.put, List.setIfInBounds_toArray, List.set_cons_zero, List.set_cons_succ]
  refine wpAnyH_ready (rs := [3]) (by kernel_rfl) (by simp) (AllReadyH.cons (by simp only [List.getElem?_toArray, List.getElem?_cons_succ, List.getElem?_cons_zero]; rfl) (fun K hK => ?_) AllReadyH.nil)
  go_simp
  refine (eqMachine_yes (HO2.out.mac.same HB1.out) HO9.out).mono ?_
  rintro e w2 ⟨rfl, hb2⟩
  have HB2 : Hid (Below w_8.heap.size w_8 w2) := Lib.hid (HB1.out.trans (hb2.mono HB1.out.size))
  clear hb2
  go_wp2_with fail
  refine hK.out _ _ ⟨cell_stay CX102.out.1 HB2.out, cell_stay CX102.out.2.1 HB2.out, cell_stay CX102.out.2.2.1 HB2.out, cell_stay CX0.out.1 HB2.out, cell_stay CX0.out.2.1 HB2.out, cell_stay CX0.out.2.2.1 HB2.out⟩ (fun hHeld => ?_)
  clear hK K
  try simp only [Act.put, List.setIfInBounds_toArray, List.set_cons_zero, List.set_cons_succ]
  refine wpAnyH_take (i := 4) (v := ?v15) (by simp only [List.getElem?_toArray, List.getElem?_cons_succ, List.getElem?_cons_zero]; rfl) (by kernel_rfl) (by kernel_rfl) (by kernel_rfl) (by exact fun _ _ _ h => h) (Or.inl ⟨by rfl, fun w9 hS9 => ?hy15⟩) hHeld ?rest15
  case hy15 =>
    dsimp only at hS9
    obtain ⟨z0, z1, z2, z3, z4, z5⟩ := hS9
    go_simp
    try with_reducible rfl
  try simp only [Act.put, List.setIfInBounds_toArray, List.set_cons_zero, List.set_cons_succ]
  refine wpAnyH_done (by kernel_rfl) ?_ _
  obtain ⟨w_9, hwv⟩ : ∃ u, u = w2 := ⟨w2, rfl⟩
  subst hwv
  have hs9 : w_8.heap.size ≤ w_9.heap.size := HB2.out.size
  replace HO0 := Lib.hid (HO0.out.same HB2.out)
  replace HO1 := Lib.hid (HO1.out.same HB2.out)
  replace HO2 := Lib.hid (HO2.out.same HB2.out)
  replace HO3 := Lib.hid (HO3.out.same HB2.out)
  replace HX0 := Lib.hid (((HB2.out).block _ (by omega)).trans HX0.out)
  replace HX102 := Lib.hid (((HB2.out).block _ (by omega)).trans HX102.out)
  replace HB := Lib.hid (HB.out.trans (HB2.out.mono HB.out.size))
  clear CX102 CX0
  obtain ⟨ea0, eb0, ec0, -⟩ := three_cells HX0.out
  obtain ⟨ea102, eb102, ec102, -⟩ := three_cells HX102.out
  go_wp2_with fail
  clear ea0 eb0 ec0 ea102 eb102 ec102
  refine (markMachine_any (k := 1) HO2.out (by omega) (by omega)).mono ?_
  rintro e w_10 ⟨rfl, ho, hg⟩
  have hs10 : w_9.heap.size ≤ w_10.heap.size := hg.size
  replace HO0 := Lib.hid (HO0.out.aside hg (by omega))
  replace HO1 := Lib.hid (HO1.out.aside hg HS1.out (by omega))
  replace HO3 := Lib.hid (HO3.out.aside hg HS3.out (by omega))
  replace HX0 := Lib.hid ((hg.block _ (by omega) (by omega)).trans HX0.out)
  replace HX102 := Lib.hid ((hg.block _ (by omega) (by omega)).trans HX102.out)
  replace HO2 := Lib.hid ho
  replace HB := Lib.hid (hg.to HB.out (by omega) HB.out.size)
  clear ho hg
  obtain ⟨ea0, eb0, ec0, -⟩ := three_cells HX0.out
  obtain ⟨ea102, eb102, ec102, -⟩ := three_cells HX102.out
  go_wp2_with fail
  clear ea0 eb0 ec0 ea102 eb102 ec102
  refine (eqIntS_yes b3 b1 m3 m1 d3 d1 (movesFrom x0 a1 a2) _ HO3.out.nums HO1.out.nums).mono ?_
  rintro e w_11 ⟨rfl, hb⟩
  have hs11 : w_10.heap.size ≤ w_11.heap.size := hb.size
  replace HO0 := Lib.hid (HO0.out.same hb)
  replace HO1 := Lib.hid (HO1.out.same hb)
  replace HO2 := Lib.hid (HO2.out.same hb)
  replace HO3 := Lib.hid (HO3.out.same hb)
  replace HX0 := Lib.hid (((hb).block _ (by omega)).trans HX0.out)
  replace HX102 := Lib.hid (((hb).block _ (by omega)).trans HX102.out)
  replace HB := Lib.hid (HB.out.trans (hb.mono HB.out.size))
  clear hb
  obtain ⟨ea0, eb0, ec0, -⟩ := three_cells HX0.out
  obtain ⟨ea102, eb102, ec102, -⟩ := three_cells HX102.out
  go_wp2_with fail
  clear ea0 eb0 ec0 ea102 eb102 ec102
  refine (markIntS_any _ b3 m3 d3 (1) (movesFrom x0 a1 a2) _ HO3.out (by omega) (by omega)).mono ?_
  rintro e w_12 ⟨rfl, ho, hg⟩
  have hs12 : w_11.heap.size ≤ w_12.heap.size := hg.size
  have hi12 : Inside w_6.heap.size w_7.heap.size w_11 w_12 := Inside.row hg fun r e => by obtain ⟨ad, e1, rfl⟩ := block_of e; exact HS3.out ad e1
  replace HO0 := Lib.hid (HO0.out.aside hi12 (by omega))
  replace HO1 := Lib.hid (HO1.out.aside hi12 HS1.out (by omega))
  replace HO2 := Lib.hid (HO2.out.aside hi12 (by omega))
  replace HX0 := Lib.hid ((hi12.block _ (by omega) (by omega)).trans HX0.out)
  replace HX102 := Lib.hid ((hi12.block _ (by omega) (by omega)).trans HX102.out)
  replace HO3 := Lib.hid ho
  replace HB := Lib.hid (hi12.to HB.out (by omega) HB.out.size)
  clear ho hg hi12
  obtain ⟨ea0, eb0, ec0, -⟩ := three_cells HX0.out
  obtain ⟨ea102, eb102, ec102, -⟩ := three_cells HX102.out
  go_wp2_with fail
  clear ea0 eb0 ec0 ea102 eb102 ec102
  refine (heldIntS_any b3 m3 d3 (1) _ HO3.out.nums (by omega) (by omega)).mono ?_
  rintro e w_13 ⟨rfl, hb⟩
  have hs13 : w_12.heap.size ≤ w_13.heap.size := hb.size
  replace HO0 := Lib.hid (HO0.out.same hb)
  replace HO1 := Lib.hid (HO1.out.same hb)
  replace HO2 := Lib.hid (HO2.out.same hb)
  replace HO3 := Lib.hid (HO3.out.same hb)
  replace HX0 := Lib.hid (((hb).block _ (by omega)).trans HX0.out)
  replace HX102 := Lib.hid (((hb).block _ (by omega)).trans HX102.out)
  replace HB := Lib.hid (HB.out.trans (hb.mono HB.out.size))
  clear hb
  obtain ⟨ea0, eb0, ec0, -⟩ := three_cells HX0.out
  obtain ⟨ea102, eb102, ec102, -⟩ := three_cells HX102.out
  go_wp2_with fail
  clear ea0 eb0 ec0 ea102 eb102 ec102
  refine (toMachine_any (HK0.out.same HB.out) (by omega)).mono ?_
  rintro e w_14 ⟨b4, rfl, ho, hb⟩
  have hs14 : w_13.heap.size ≤ w_14.heap.size := hb.size
  have HO4 := Lib.hid ho
  replace HO0 := Lib.hid (HO0.out.same hb)
  replace HO1 := Lib.hid (HO1.out.same hb)
  replace HO2 := Lib.hid (HO2.out.same hb)
  replace HO3 := Lib.hid (HO3.out.same hb)
  replace HX0 := Lib.hid (((hb).block _ (by omega)).trans HX0.out)
  replace HX102 := Lib.hid (((hb).block _ (by omega)).trans HX102.out)
  replace HB := Lib.hid (HB.out.trans (hb.mono HB.out.size))
  clear ho hb
  obtain ⟨ea0, eb0, ec0, -⟩ := three_cells HX0.out
  obtain ⟨ea102, eb102, ec102, -⟩ := three_cells HX102.out
  go_wp2_with fail
  clear ea0 eb0 ec0 ea102 eb102 ec102
  refine (movesFrom_any a1 a2 HO4.out.mac (by omega)).mono ?_
  rintro e w_15 ⟨b5, m5, d5, rfl, ho, hb⟩
  have hm5 : m5 ≤ 1000000000 := by have hl := ho.len;   have := movesFrom_len x0 a1 a2; omega
  have hs15 : w_14.heap.size ≤ w_15.heap.size := hb.size
  have HS5 := Lib.hid ho.span
  have HO5 := Lib.hid ho
  replace HO0 := Lib.hid (HO0.out.same hb)
  replace HO1 := Lib.hid (HO1.out.same hb)
  replace HO2 := Lib.hid (HO2.out.same hb)
  replace HO3 := Lib.hid (HO3.out.same hb)
  replace HO4 := Lib.hid (HO4.out.same hb)
  replace HX0 := Lib.hid (((hb).block _ (by omega)).trans HX0.out)
  replace HX102 := Lib.hid (((hb).block _ (by omega)).trans HX102.out)
  replace HB := Lib.hid (HB.out.trans (hb.mono HB.out.size))
  clear ho hb
  obtain ⟨ea0, eb0, ec0, -⟩ := three_cells HX0.out
  obtain ⟨ea102, eb102, ec102, -⟩ := three_cells HX102.out
  go_wp2_with fail
  clear ea0 eb0 ec0 ea102 eb102 ec102
  refine (eqIntS_yes b5 b1 m5 m1 d5 d1 (movesFrom x0 a1 a2) _ HO5.out.nums HO1.out.nums).mono ?_
  rintro e w_16 ⟨rfl, hb⟩
  have hs16 : w_15.heap.size ≤ w_16.heap.size := hb.size
  replace HO0 := Lib.hid (HO0.out.same hb)
  replace HO1 := Lib.hid (HO1.out.same hb)
  replace HO2 := Lib.hid (HO2.out.same hb)
  replace HO3 := Lib.hid (HO3.out.same hb)
  replace HO4 := Lib.hid (HO4.out.same hb)
  replace HO5 := Lib.hid (HO5.out.same hb)
  replace HX0 := Lib.hid (((hb).block _ (by omega)).trans HX0.out)
  replace HX102 := Lib.hid (((hb).block _ (by omega)).trans HX102.out)
  replace HB := Lib.hid (HB.out.trans (hb.mono HB.out.size))
  clear hb
  obtain ⟨ea0, eb0, ec0, -⟩ := three_cells HX0.out
  obtain ⟨ea102, eb102, ec102, -⟩ := three_cells HX102.out
  go_wp2_with fail
  clear ea0 eb0 ec0 ea102 eb102 ec102
  refine (heldIntS_any b3 m3 d3 (1) _ HO3.out.nums (by omega) (by omega)).mono ?_
  rintro e w_17 ⟨rfl, hb⟩
  have hs17 : w_16.heap.size ≤ w_17.heap.size := hb.size
  replace HO0 := Lib.hid (HO0.out.same hb)
  replace HO1 := Lib.hid (HO1.out.same hb)
  replace HO2 := Lib.hid (HO2.out.same hb)
  replace HO3 := Lib.hid (HO3.out.same hb)
  replace HO4 := Lib.hid (HO4.out.same hb)
  replace HO5 := Lib.hid (HO5.out.same hb)
  replace HX0 := Lib.hid (((hb).block _ (by omega)).trans HX0.out)
  replace HX102 := Lib.hid (((hb).block _ (by omega)).trans HX102.out)
  replace HB := Lib.hid (HB.out.trans (hb.mono HB.out.size))
  clear hb
  obtain ⟨ea0, eb0, ec0, -⟩ := three_cells HX0.out
  obtain ⟨ea102, eb102, ec102, -⟩ := three_cells HX102.out
  go_wp2_with fail
  clear ea0 eb0 ec0 ea102 eb102 ec102
  go_ret
  exact ⟨rfl, HB.out⟩

set_option maxRecDepth 100000 in
theorem lifted (os : Os) (started : os.Started) (H : Type) (enc : TypeId × Value → H) :
    ReturnsInHanded {} Try.checked os 6 .any (Rows.fnExactMovesFromSpec.pre6 enc Try.prog Try.f6 Rows.fnExactMovesFromRow.domain false) (Rows.fnExactMovesFromSpec.post enc Try.prog Try.f6 false true false false) := by
  refine returnsInHanded_of_change (C := Try.checked) own started (by kernel_rfl) Try.func6
    (ChangeSpec.witness6 (enc := enc) (C := Try.checked) false ⟨#[], #[.agg #[.int .i64 0, .slice none 0 0, .slice none 0 0], .int .i64 0, .bool false], []⟩ 8 (by kernel_rfl) (by kernel_rfl) (by kernel_rfl) (by kernel_rfl)) ?_
  intro W base args ds gs before hval0 hW hcnd _
  have hval : ∀ (j : Nat) t v, Try.f6.params[j]? = some t → args[j]? = some v → Value.okWide Try.prog W .any base t v := hval0
  have hW' := hW
  obtain ⟨p, q, hA0, hV, rfl, hfz, hnd⟩ := hW
  have hA : DataW.TrodAll enc Try.prog W 0 (fun _ => true) true Try.f6.params.toList args.toList ds p := hA0
  rw [Try.params6] at hA hval
  obtain ⟨v0, vs0, d0, ds0, p0, q0, hargs, rfl, rfl, h0, r0⟩ := trodAll_cons hA
  obtain ⟨v1, vs1, d1, ds1, p1, q1, rfl, rfl, rfl, h1, r1⟩ := trodAll_cons r0
  obtain ⟨v2, vs2, d2, ds2, p2, q2, rfl, rfl, rfl, h2, r2⟩ := trodAll_cons r1
  obtain ⟨rfl, rfl, rfl⟩ := trodAll_nil r2
  obtain rfl : args = #[v0, v1, v2] := by cases args; simp_all
  obtain ⟨rfl, rfl⟩ := trodVars_none hV
  have h0k := h0
  have hlt0 : ∀ x ∈ p0, x.block < W.heap.size := fun x hx => by simpa using hW'.lt x (by simp [hx])
  obtain ⟨x0, K0, F0⟩ := open_mac Try.underlying41 (by kernel_rfl) (by kernel_rfl) Try.underlying3 Try.underlying24 Try.underlying4 (by kernel_rfl) Try.underlying39 Try.underlying94 (by kernel_rfl) (by kernel_rfl) Try.underlying3 Try.underlying4 Try.underlying3 Try.underlying3 (hval 0 41 v0 rfl rfl) h0
  obtain ⟨a1, rfl, rfl, rfl, w1⟩ := open_int Try.underlying3 (hval 1 3 v1 rfl rfl) h1
  obtain ⟨a2, rfl, rfl, rfl⟩ := open_bool Try.underlying4 (hval 2 4 v2 rfl rfl) h2
  clear hA0 hval0
  simp only [List.append_nil] at hW'
  refine (walk v0 x0 a1 w1 a2 W K0 F0).mono fun e W' ⟨he, hb⟩ => ?_
  subst he
  exact ⟨_, rfl, ⟨_, _, _, [], _, [], hW', (trodAll_cons_mk (shut_bool Try.underlying4 _) trodAll_mk0), (trodAll_cons_mk (Below.trod laidOut (by kernel_rfl) (of_decide_eq_true (by kernel_rfl)) h0k hb hlt0) (trodAll_cons_mk (shut_int Try.underlying3 w1) (trodAll_cons_mk (shut_bool Try.underlying4 _) trodAll_mk0))), rfl, hb.frame _, fun h => by cases h⟩⟩

theorem over : Rows.fnExactMovesFromRow.holds Try.pinned (OpenSpec.ofChange Rows.fnExactMovesFromSpec) :=
  OpenClaim.holds_of_wide 6 Try.f6 rfl rfl rfl rfl rfl rfl rfl ⟨rfl, rfl, rfl, rfl, rfl⟩ rfl rfl rfl rfl rfl (by kernel_rfl) Try.func6 (by kernel_rfl)
    (of_decide_eq_true (by kernel_rfl)) (by unfold Func.isWrapper; first | (rw [if_pos (by decide +kernel)]; kernel_rfl) | (rw [if_neg (by decide +kernel)]; exact ⟨rfl, rfl⟩))
    (fun os started H enc _ => lifted os started H enc)

theorem proved : Rows.FnExactMovesFromSaid :=
  over
end Go.Proofs.Ytaaogdhkehkamaa.fnExactMovesFrom
