/- AnswerBytes: the program answers as its model. -/
import Derived.Test.YtcpnchjgklemgaaG21
import Derived.Test.YtcpnchjgklemgaaG25
import Derived.Test.YtcpnchjgklemgaaG1
import Derived.WalkKit
import Derived.Deep.RegionHeld3
import Derived.ProofKit
import Derived.OpenShut
namespace Go.Proofs.Ytcpnchjgklemgaa.fnExactAnswerBytes
open Go.ChangeShapes Go.WideShapes Go.ChangeAt Go.RowKit Go.Lib
open Go.ChangeMaps (open_string shut_string)
set_option linter.unusedVariables false

theorem own : ownKnob Try.prog.godebug = none := by kernel_rfl
set_option linter.unusedSimpArgs false

set_option maxHeartbeats 4000000 in
set_option maxRecDepth 100000 in
theorem walk (v0 : Value) (x0 : Ans) (w : World) (K0 : AnsW w v0 x0) (F0 : x0.wf) :
    Calls Try.prog 8 #[v0] w fun e w' => e = .returned (.bool true) ∧ Below w.heap.size w w' := by
  obtain ⟨b90, m90, d90, rfl⟩ := K0.shape
  by_cases hbig0 : 1048576 < x0.parts
  · have HB := Lib.hid (alloc_same w (.cells #[.int .i64 x0.ver, .slice b90 m90 d90] 53))
    have HXp0 := Lib.hid (heap_alloc_new w (.cells #[.int .i64 x0.ver, .slice b90 m90 d90] 53 (0, 0)))
    change Hid ((World.alloc w (.cells #[.int .i64 x0.ver, .slice b90 m90 d90] 53)).heap[w.heap.size]? = _) at HXp0
    have hs1 : w.heap.size + 1 ≤ (World.alloc w (.cells #[.int .i64 x0.ver, .slice b90 m90 d90] 53)).heap.size := by simp
    go_enter Try.func8, Try.ntmps8
    obtain ⟨eap0, ebp0, -⟩ := two_cells HXp0.out
    go_wp2_with fail
    clear eap0 ebp0
    generalize hgen : (World.alloc w (.cells #[.int .i64 x0.ver, .slice b90 m90 d90] 53)) = w_1 at *
    clear hgen
    refine (szAnswer_no (1048576) (K0.same HB.out) (by omega) (by omega) (by omega)).mono ?_
    rintro e w' ⟨rfl, hb⟩
    have HB2 := Lib.hid (HB.out.trans (hb.mono HB.out.size))
    go_wp2_with fail
    go_ret
    exact ⟨rfl, HB2.out⟩
  have HK0 := Lib.hid K0
  have hn0 : x0.parts ≤ 1048576 := by omega
  skip
  clear K0 F0
  have HB := Lib.hid (alloc_same w (.cells #[.int .i64 x0.ver, .slice b90 m90 d90] 53))
  have HXp0 := Lib.hid (heap_alloc_new w (.cells #[.int .i64 x0.ver, .slice b90 m90 d90] 53 (0, 0)))
  change Hid ((World.alloc w (.cells #[.int .i64 x0.ver, .slice b90 m90 d90] 53)).heap[w.heap.size]? = _) at HXp0
  have hs1 : w.heap.size + 1 ≤ (World.alloc w (.cells #[.int .i64 x0.ver, .slice b90 m90 d90] 53)).heap.size := by simp
  go_enter Try.func8, Try.ntmps8
  obtain ⟨eap0, ebp0, -⟩ := two_cells HXp0.out
  go_wp2_with fail
  clear eap0 ebp0
  generalize hgen : (World.alloc w (.cells #[.int .i64 x0.ver, .slice b90 m90 d90] 53)) = w_1 at *
  clear hgen
  refine (szAnswer_yes (1048576) (HK0.out.same HB.out) (by omega) (by omega)).mono ?_
  rintro e w_2 ⟨rfl, hb⟩
  have hs2 : w_1.heap.size ≤ w_2.heap.size := hb.size
  replace HXp0 := Lib.hid (((hb).block _ (by omega)).trans HXp0.out)
  replace HB := Lib.hid (HB.out.trans (hb.mono HB.out.size))
  clear hb
  obtain ⟨eap0, ebp0, -⟩ := two_cells HXp0.out
  go_wp2_with fail
  clear eap0 ebp0
  refine (toAnswer_any (HK0.out.same HB.out) (by omega)).mono ?_
  rintro e w_3 ⟨v21, rfl, ho, hb⟩
  have HN21 := Lib.hid ho
  have hs3 : w_2.heap.size ≤ w_3.heap.size := hb.size
  replace HXp0 := Lib.hid (((hb).block _ (by omega)).trans HXp0.out)
  replace HB := Lib.hid (HB.out.trans (hb.mono HB.out.size))
  clear ho
  clear hb
  have HO21 := HN21
  clear HN21
  obtain ⟨b21, m21, d21, rfl⟩ := HO21.out.shape
  obtain ⟨eap0, ebp0, -⟩ := two_cells HXp0.out
  go_wp2_with fail
  clear eap0 ebp0
  refine (specAnswerBytes_any HO21.out.ans).mono ?_
  rintro e w_4 ⟨b22, m22, d22, rfl, ho, hb⟩
  have hm22 : m22 ≤ 1000000000 := by have hl := ho.len; have := ansB_few x0; omega
  have HN22 := Lib.hid ho
  have HS22 := Lib.hid ho.span
  have hs4 : w_3.heap.size ≤ w_4.heap.size := hb.size
  replace HO21 := Lib.hid (HO21.out.same hb)
  replace HXp0 := Lib.hid (((hb).block _ (by omega)).trans HXp0.out)
  replace HB := Lib.hid (HB.out.trans (hb.mono HB.out.size))
  clear ho
  clear hb
  have HO22 := HN22
  clear HN22
  clear HO21
  obtain ⟨eap0, ebp0, -⟩ := two_cells HXp0.out
  go_wp2_with fail
  clear eap0 ebp0
  refine (toAnswer_any (HK0.out.same HB.out) (by omega)).mono ?_
  rintro e w_5 ⟨v23, rfl, ho, hb⟩
  have HN23 := Lib.hid ho
  have hs5 : w_4.heap.size ≤ w_5.heap.size := hb.size
  replace HO22 := Lib.hid (HO22.out.same hb)
  replace HXp0 := Lib.hid (((hb).block _ (by omega)).trans HXp0.out)
  replace HB := Lib.hid (HB.out.trans (hb.mono HB.out.size))
  clear ho
  clear hb
  have HO23 := HN23
  clear HN23
  obtain ⟨b23, m23, d23, rfl⟩ := HO23.out.shape
  have HAL := Lib.hid (alloc_same w_5 (.cells #[.int .i64 x0.ver, .slice b23 m23 d23] 39))
  have HX23 := Lib.hid (heap_alloc_new w_5 (.cells #[.int .i64 x0.ver, .slice b23 m23 d23] 39 (0, 0)))
  change Hid ((World.alloc w_5 (.cells #[.int .i64 x0.ver, .slice b23 m23 d23] 39)).heap[w_5.heap.size]? = _) at HX23
  replace HO22 := Lib.hid (HO22.out.same HAL.out)
  replace HO23 := Lib.hid (HO23.out.same HAL.out)
  replace HXp0 := Lib.hid (((HAL.out).block _ (by omega)).trans HXp0.out)
  replace HB := Lib.hid (HB.out.trans (HAL.out.mono HB.out.size))
  have hs6 : w_5.heap.size < (World.alloc w_5 (.cells #[.int .i64 x0.ver, .slice b23 m23 d23] 39)).heap.size := by simp
  obtain ⟨eap0, ebp0, -⟩ := two_cells HXp0.out
  obtain ⟨ea23, eb23, -⟩ := two_cells HX23.out
  clear HAL
  go_wp2_with fail
  clear eap0 ebp0 ea23 eb23
  generalize hgen : World.alloc w_5 (.cells #[.int .i64 x0.ver, .slice b23 m23 d23] 39) = w_6 at *
  clear hgen
  refine (answerBytes_any HO23.out.ans).mono ?_
  rintro e w_7 ⟨b24, m24, d24, rfl, ho, hb⟩
  have hm24 : m24 ≤ 1000000000 := by have hl := ho.len; have := ansB_few x0; omega
  have HN24 := Lib.hid ho
  have HS24 := Lib.hid ho.span
  have hs7 : w_6.heap.size ≤ w_7.heap.size := hb.size
  replace HO22 := Lib.hid (HO22.out.same hb)
  replace HO23 := Lib.hid (HO23.out.same hb)
  replace HXp0 := Lib.hid (((hb).block _ (by omega)).trans HXp0.out)
  replace HX23 := Lib.hid (((hb).block _ (by omega)).trans HX23.out)
  replace HB := Lib.hid (HB.out.trans (hb.mono HB.out.size))
  clear ho
  clear hb
  have HO24 := HN24
  clear HN24
  obtain ⟨eap0, ebp0, -⟩ := two_cells HXp0.out
  obtain ⟨ea23, eb23, -⟩ := two_cells HX23.out
  go_wp2_with fail
  clear eap0 ebp0 ea23 eb23
  refine (eqIntS_yes b24 b22 m24 m22 d24 d22 _ _ HO24.out.nums HO22.out.nums).mono ?_
  rintro e w_8 ⟨rfl, hb⟩
  have hs8 : w_7.heap.size ≤ w_8.heap.size := hb.size
  replace HO22 := Lib.hid (HO22.out.same hb)
  replace HO23 := Lib.hid (HO23.out.same hb)
  replace HO24 := Lib.hid (HO24.out.same hb)
  replace HXp0 := Lib.hid (((hb).block _ (by omega)).trans HXp0.out)
  replace HX23 := Lib.hid (((hb).block _ (by omega)).trans HX23.out)
  replace HB := Lib.hid (HB.out.trans (hb.mono HB.out.size))
  clear hb
  obtain ⟨eap0, ebp0, -⟩ := two_cells HXp0.out
  obtain ⟨ea23, eb23, -⟩ := two_cells HX23.out
  go_wp2_with fail
  clear eap0 ebp0 ea23 eb23
  have CX23 := Lib.hid (two_cells HX23.out)
  have CXp0 := Lib.hid (two_cells HXp0.out)
  have HBd : Hid (Below w_8.heap.size w_8 w_8.drew) := Lib.hid (Below.refl _ _).drew
  refine wp_region_held_drew (S := fun w9 => w9.cell? ⟨w_5.heap.size, 0, none⟩ = some (.int .i64 x0.ver) ∧ w9.cell? ⟨w_5.heap.size, 1, none⟩ = some (.slice b23 m23 d23) ∧ w9.cell? ⟨w.heap.size, 0, none⟩ = some (.int .i64 x0.ver) ∧ w9.cell? ⟨w.heap.size, 1, none⟩ = some (.slice b90 m90 d90)) (by kernel_rfl) ⟨cell_stay CX23.out.1 HBd.out, cell_stay CX23.out.2.1 HBd.out, cell_stay CXp0.out.1 HBd.out, cell_stay CXp0.out.2.1 HBd.out⟩ (fun hHeld => ?_)
  refine wpAnyH_take (i := 0) (v := ?v28) (by simp only [List.getElem?_toArray, List.getElem?_cons_succ, List.getElem?_cons_zero]; rfl) (by kernel_rfl) (by kernel_rfl) (by kernel_rfl) (by exact fun _ _ _ h => h) (Or.inl ⟨by rfl, fun w9 hS9 => ?hy28⟩) hHeld ?rest28
  case hy28 =>
    dsimp only at hS9
    obtain ⟨z0, z1, z2, z3⟩ := hS9
    go_simp
    try with_reducible rfl
  try simp only [Act.put, List.setIfInBounds_toArray, List.set_cons_zero, List.set_cons_succ]
  refine wpAnyH_take (i := 1) (v := ?v29) (by simp only [List.getElem?_toArray, List.getElem?_cons_succ, List.getElem?_cons_zero]; rfl) (by kernel_rfl) (by kernel_rfl) (by kernel_rfl) (by exact fun _ _ _ h => h) (Or.inl ⟨by rfl, fun w9 hS9 => ?hy29⟩) hHeld ?rest29
  case hy29 =>
    dsimp only at hS9
    obtain ⟨z0, z1, z2, z3⟩ := hS9
    go_simp
    try with_reducible rfl
  try simp only [Act.put, List.setIfInBounds_toArray, List.set_cons_zero, List.set_cons_succ]
  refine wpAnyH_ready (rs := [2]) (by kernel_rfl) (by simp) (AllReadyH.cons (by simp only [List.getElem?_toArray, List.getElem?_cons_succ, List.getElem?_cons_zero]; rfl) (fun K hK => ?_) AllReadyH.nil)
  go_simp
  refine (toAnswer_any (HK0.out.same (HB.out.trans (HBd.out.mono HB.out.size))) (by omega)).mono ?_
  rintro e w1 ⟨b9, rfl, ho1, hb1⟩
  have HB1 : Hid (Below w_8.heap.size w_8 w1) := Lib.hid (HBd.out.trans (hb1.mono HBd.out.size))
  have HO9 := Lib.hid ho1.ans
  clear ho1
  clear hb1
  go_wp2_with fail
  refine hK.out _ _ ⟨cell_stay CX23.out.1 HB1.out, cell_stay CX23.out.2.1 HB1.out, cell_stay CXp0.out.1 HB1.out, cell_stay CXp0.out.2.1 HB1.out⟩ (fun hHeld => ?_)
  clear hK K
  try simp only [Act.put, List.setIfInBounds_toArray, List.set_cons_zero, List.set_cons_succ]
  refine wpAnyH_ready (rs := [3]) (by kernel_rfl) (by simp) (AllReadyH.cons (by simp only [List.getElem?_toArray, List.getElem?_cons_succ, List.getElem?_cons_zero]; rfl) (fun K hK => ?_) AllReadyH.nil)
  go_simp
  refine (eqAnswer_yes (HO23.out.ans.same HB1.out) HO9.out).mono ?_
  rintro e w2 ⟨rfl, hb2⟩
  have HB2 : Hid (Below w_8.heap.size w_8 w2) := Lib.hid (HB1.out.trans (hb2.mono HB1.out.size))
  clear hb2
  go_wp2_with fail
  refine hK.out _ _ ⟨cell_stay CX23.out.1 HB2.out, cell_stay CX23.out.2.1 HB2.out, cell_stay CXp0.out.1 HB2.out, cell_stay CXp0.out.2.1 HB2.out⟩ (fun hHeld => ?_)
  clear hK K
  try simp only [Act.put, List.setIfInBounds_toArray, List.set_cons_zero, List.set_cons_succ]
  refine wpAnyH_take (i := 4) (v := ?v30) (by simp only [List.getElem?_toArray, List.getElem?_cons_succ, List.getElem?_cons_zero]; rfl) (by kernel_rfl) (by kernel_rfl) (by kernel_rfl) (by exact fun _ _ _ h => h) (Or.inl ⟨by rfl, fun w9 hS9 => ?hy30⟩) hHeld ?rest30
  case hy30 =>
    dsimp only at hS9
    obtain ⟨z0, z1, z2, z3⟩ := hS9
    go_simp
    try with_reducible rfl
  try simp only [Act.put, List.setIfInBounds_toArray, List.set_cons_zero, List.set_cons_succ]
  refine wpAnyH_done (by kernel_rfl) ?_ _
  obtain ⟨w_9, hwv⟩ : ∃ u, u = w2 := ⟨w2, rfl⟩
  subst hwv
  have hs9 : w_8.heap.size ≤ w_9.heap.size := HB2.out.size
  replace HO22 := Lib.hid (HO22.out.same HB2.out)
  replace HO23 := Lib.hid (HO23.out.same HB2.out)
  replace HO24 := Lib.hid (HO24.out.same HB2.out)
  replace HXp0 := Lib.hid (((HB2.out).block _ (by omega)).trans HXp0.out)
  replace HX23 := Lib.hid (((HB2.out).block _ (by omega)).trans HX23.out)
  replace HB := Lib.hid (HB.out.trans (HB2.out.mono HB.out.size))
  clear CX23 CXp0
  obtain ⟨eap0, ebp0, -⟩ := two_cells HXp0.out
  obtain ⟨ea23, eb23, -⟩ := two_cells HX23.out
  go_wp2_with fail
  clear eap0 ebp0 ea23 eb23
  refine (markAnswer_any (k := 1) HO23.out (by omega) (by omega)).mono ?_
  rintro e w_10 ⟨rfl, ho, hg⟩
  have hs10 : w_9.heap.size ≤ w_10.heap.size := hg.size
  replace HO22 := Lib.hid (HO22.out.aside hg HS22.out (by omega))
  replace HO24 := Lib.hid (HO24.out.aside hg HS24.out (by omega))
  replace HXp0 := Lib.hid ((hg.block _ (by omega) (by omega)).trans HXp0.out)
  replace HX23 := Lib.hid ((hg.block _ (by omega) (by omega)).trans HX23.out)
  replace HO23 := Lib.hid ho
  replace HB := Lib.hid (hg.to HB.out (by omega) HB.out.size)
  clear ho hg
  obtain ⟨eap0, ebp0, -⟩ := two_cells HXp0.out
  obtain ⟨ea23, eb23, -⟩ := two_cells HX23.out
  go_wp2_with fail
  clear eap0 ebp0 ea23 eb23
  refine (eqIntS_yes b24 b22 m24 m22 d24 d22 _ _ HO24.out.nums HO22.out.nums).mono ?_
  rintro e w_11 ⟨rfl, hb⟩
  have hs11 : w_10.heap.size ≤ w_11.heap.size := hb.size
  replace HO22 := Lib.hid (HO22.out.same hb)
  replace HO23 := Lib.hid (HO23.out.same hb)
  replace HO24 := Lib.hid (HO24.out.same hb)
  replace HXp0 := Lib.hid (((hb).block _ (by omega)).trans HXp0.out)
  replace HX23 := Lib.hid (((hb).block _ (by omega)).trans HX23.out)
  replace HB := Lib.hid (HB.out.trans (hb.mono HB.out.size))
  clear hb
  obtain ⟨eap0, ebp0, -⟩ := two_cells HXp0.out
  obtain ⟨ea23, eb23, -⟩ := two_cells HX23.out
  go_wp2_with fail
  clear eap0 ebp0 ea23 eb23
  refine (markIntS_any _ b24 m24 d24 (1) (ansB x0) _ HO24.out (by omega) (by omega)).mono ?_
  rintro e w_12 ⟨rfl, ho, hg0⟩
  have hg : Inside w_6.heap.size w_7.heap.size w_11 w_12 := Inside.row hg0 fun r e => by obtain ⟨ad, e1, rfl⟩ := block_of e; exact HS24.out ad e1
  have hs12 : w_11.heap.size ≤ w_12.heap.size := hg.size
  replace HO22 := Lib.hid (HO22.out.aside hg HS22.out (by omega))
  replace HO23 := Lib.hid (HO23.out.aside hg (by omega))
  replace HXp0 := Lib.hid ((hg.block _ (by omega) (by omega)).trans HXp0.out)
  replace HX23 := Lib.hid ((hg.block _ (by omega) (by omega)).trans HX23.out)
  replace HO24 := Lib.hid ho
  replace HB := Lib.hid (hg.to HB.out (by omega) HB.out.size)
  clear ho hg hg0
  obtain ⟨eap0, ebp0, -⟩ := two_cells HXp0.out
  obtain ⟨ea23, eb23, -⟩ := two_cells HX23.out
  go_wp2_with fail
  clear eap0 ebp0 ea23 eb23
  refine (heldIntS_any b24 m24 d24 (1) _ HO24.out.nums (by omega) (by omega)).mono ?_
  rintro e w_13 ⟨rfl, hb⟩
  have hs13 : w_12.heap.size ≤ w_13.heap.size := hb.size
  replace HO22 := Lib.hid (HO22.out.same hb)
  replace HO23 := Lib.hid (HO23.out.same hb)
  replace HO24 := Lib.hid (HO24.out.same hb)
  replace HXp0 := Lib.hid (((hb).block _ (by omega)).trans HXp0.out)
  replace HX23 := Lib.hid (((hb).block _ (by omega)).trans HX23.out)
  replace HB := Lib.hid (HB.out.trans (hb.mono HB.out.size))
  clear hb
  obtain ⟨eap0, ebp0, -⟩ := two_cells HXp0.out
  obtain ⟨ea23, eb23, -⟩ := two_cells HX23.out
  go_wp2_with fail
  clear eap0 ebp0 ea23 eb23
  refine (toAnswer_any (HK0.out.same HB.out) (by omega)).mono ?_
  rintro e w_14 ⟨v25, rfl, ho, hb⟩
  have HN25 := Lib.hid ho
  have hs14 : w_13.heap.size ≤ w_14.heap.size := hb.size
  replace HO22 := Lib.hid (HO22.out.same hb)
  replace HO23 := Lib.hid (HO23.out.same hb)
  replace HO24 := Lib.hid (HO24.out.same hb)
  replace HXp0 := Lib.hid (((hb).block _ (by omega)).trans HXp0.out)
  replace HX23 := Lib.hid (((hb).block _ (by omega)).trans HX23.out)
  replace HB := Lib.hid (HB.out.trans (hb.mono HB.out.size))
  clear ho
  clear hb
  have HO25 := HN25
  clear HN25
  obtain ⟨b25, m25, d25, rfl⟩ := HO25.out.shape
  obtain ⟨eap0, ebp0, -⟩ := two_cells HXp0.out
  obtain ⟨ea23, eb23, -⟩ := two_cells HX23.out
  go_wp2_with fail
  clear eap0 ebp0 ea23 eb23
  refine (answerBytes_any HO25.out.ans).mono ?_
  rintro e w_15 ⟨b26, m26, d26, rfl, ho, hb⟩
  have hm26 : m26 ≤ 1000000000 := by have hl := ho.len; have := ansB_few x0; omega
  have HN26 := Lib.hid ho
  have HS26 := Lib.hid ho.span
  have hs15 : w_14.heap.size ≤ w_15.heap.size := hb.size
  replace HO22 := Lib.hid (HO22.out.same hb)
  replace HO23 := Lib.hid (HO23.out.same hb)
  replace HO24 := Lib.hid (HO24.out.same hb)
  replace HO25 := Lib.hid (HO25.out.same hb)
  replace HXp0 := Lib.hid (((hb).block _ (by omega)).trans HXp0.out)
  replace HX23 := Lib.hid (((hb).block _ (by omega)).trans HX23.out)
  replace HB := Lib.hid (HB.out.trans (hb.mono HB.out.size))
  clear ho
  clear hb
  have HO26 := HN26
  clear HN26
  clear HO25
  obtain ⟨eap0, ebp0, -⟩ := two_cells HXp0.out
  obtain ⟨ea23, eb23, -⟩ := two_cells HX23.out
  go_wp2_with fail
  clear eap0 ebp0 ea23 eb23
  refine (eqIntS_yes b26 b22 m26 m22 d26 d22 _ _ HO26.out.nums HO22.out.nums).mono ?_
  rintro e w_16 ⟨rfl, hb⟩
  have hs16 : w_15.heap.size ≤ w_16.heap.size := hb.size
  replace HO22 := Lib.hid (HO22.out.same hb)
  replace HO23 := Lib.hid (HO23.out.same hb)
  replace HO24 := Lib.hid (HO24.out.same hb)
  replace HO26 := Lib.hid (HO26.out.same hb)
  replace HXp0 := Lib.hid (((hb).block _ (by omega)).trans HXp0.out)
  replace HX23 := Lib.hid (((hb).block _ (by omega)).trans HX23.out)
  replace HB := Lib.hid (HB.out.trans (hb.mono HB.out.size))
  clear hb
  obtain ⟨eap0, ebp0, -⟩ := two_cells HXp0.out
  obtain ⟨ea23, eb23, -⟩ := two_cells HX23.out
  go_wp2_with fail
  clear eap0 ebp0 ea23 eb23
  refine (heldIntS_any b24 m24 d24 (1) _ HO24.out.nums (by omega) (by omega)).mono ?_
  rintro e w_17 ⟨rfl, hb⟩
  have hs17 : w_16.heap.size ≤ w_17.heap.size := hb.size
  replace HO22 := Lib.hid (HO22.out.same hb)
  replace HO23 := Lib.hid (HO23.out.same hb)
  replace HO24 := Lib.hid (HO24.out.same hb)
  replace HO26 := Lib.hid (HO26.out.same hb)
  replace HXp0 := Lib.hid (((hb).block _ (by omega)).trans HXp0.out)
  replace HX23 := Lib.hid (((hb).block _ (by omega)).trans HX23.out)
  replace HB := Lib.hid (HB.out.trans (hb.mono HB.out.size))
  clear hb
  obtain ⟨eap0, ebp0, -⟩ := two_cells HXp0.out
  obtain ⟨ea23, eb23, -⟩ := two_cells HX23.out
  go_wp2_with fail
  clear eap0 ebp0 ea23 eb23
  go_ret
  exact ⟨rfl, HB.out⟩

set_option maxRecDepth 100000 in
theorem lifted (os : Os) (started : os.Started) (H : Type) (enc : TypeId × Value → H) :
    ReturnsInHanded {} Try.checked os 8 .any (Rows.fnExactAnswerBytesSpec.pre6 enc Try.prog Try.f8 Rows.fnExactAnswerBytesRow.domain false) (Rows.fnExactAnswerBytesSpec.post enc Try.prog Try.f8 false true false false) := by
  refine returnsInHanded_of_change (C := Try.checked) own started (by kernel_rfl) Try.func8
    (ChangeSpec.witness6 (enc := enc) (C := Try.checked) false ⟨#[], #[.agg #[.int .i64 0, .slice none 0 0]], []⟩ 8 (by kernel_rfl) (by kernel_rfl) (by kernel_rfl) (by kernel_rfl)) ?_
  intro W base args ds gs before hval0 hW hcnd _
  have hval : ∀ (j : Nat) t v, Try.f8.params[j]? = some t → args[j]? = some v → Value.okWide Try.prog W .any base t v := hval0
  have hW' := hW
  obtain ⟨p, q, hA0, hV, rfl, hfz, hnd⟩ := hW
  have hA : DataW.TrodAll enc Try.prog W 0 (fun _ => true) true Try.f8.params.toList args.toList ds p := hA0
  rw [Try.params8] at hA hval
  obtain ⟨v0, vs0, d0, ds0, p0, q0, hargs, rfl, rfl, h0, r0⟩ := trodAll_cons hA
  obtain ⟨rfl, rfl, rfl⟩ := trodAll_nil r0
  obtain rfl : args = #[v0] := by cases args; simp_all
  obtain ⟨rfl, rfl⟩ := trodVars_none hV
  have h0k := h0
  have hlt0 : ∀ x ∈ p0, x.block < W.heap.size := fun x hx => by simpa using hW'.lt x (by simp [hx])
  obtain ⟨x0, K0, F0⟩ := open_ans Try.underlying53 (by kernel_rfl) (by kernel_rfl) Try.underlying3 Try.underlying3 int_cells Try.underlying46 Try.underlying126 (by kernel_rfl) (by kernel_rfl) Try.underlying3 Try.underlying24 (hval 0 53 v0 rfl rfl) h0
  clear hA0 hval0
  simp only [List.append_nil] at hW'
  refine (walk v0 x0 W K0 F0).mono fun e W' ⟨he, hb⟩ => ?_
  subst he
  exact ⟨_, rfl, ⟨_, _, _, [], _, [], hW', (trodAll_cons_mk (shut_bool Try.underlying4 _) trodAll_mk0), (trodAll_cons_mk (Below.trod laidOut (by kernel_rfl) (of_decide_eq_true (by kernel_rfl)) h0k hb hlt0) trodAll_mk0), rfl, hb.frame _, fun h => by cases h⟩⟩

theorem over : Rows.fnExactAnswerBytesRow.holds Try.pinned (OpenSpec.ofChange Rows.fnExactAnswerBytesSpec) :=
  OpenClaim.holds_of_wide 8 Try.f8 rfl rfl rfl rfl rfl rfl rfl ⟨rfl, rfl, rfl, rfl, rfl⟩ rfl rfl rfl rfl rfl (by kernel_rfl) Try.func8 (by kernel_rfl)
    (of_decide_eq_true (by kernel_rfl)) (by unfold Func.isWrapper; first | (rw [if_pos (by decide +kernel)]; kernel_rfl) | (rw [if_neg (by decide +kernel)]; exact ⟨rfl, rfl⟩))
    (fun os started H enc _ => lifted os started H enc)

theorem proved : Rows.FnExactAnswerBytesSaid :=
  over
end Go.Proofs.Ytcpnchjgklemgaa.fnExactAnswerBytes
