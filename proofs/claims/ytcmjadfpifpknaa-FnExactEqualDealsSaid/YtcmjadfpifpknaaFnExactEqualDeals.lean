/- EqualDeals: the program answers as its model. -/
import Derived.Test.YtcmjadfpifpknaaG17
import Derived.Test.YtcmjadfpifpknaaG8
import Derived.WalkKit
import Derived.Deep.RegionHeld3
import Derived.ProofKit
import Derived.OpenShut
namespace Go.Proofs.Ytcmjadfpifpknaa.fnExactEqualDeals
open Go.ChangeShapes Go.WideShapes Go.ChangeAt Go.RowKit Go.Lib
open Go.ChangeMaps (open_string shut_string)
set_option linter.unusedVariables false

theorem own : ownKnob Try.prog.godebug = none := by kernel_rfl
set_option linter.unusedSimpArgs false

set_option maxHeartbeats 4000000 in
set_option maxRecDepth 100000 in
theorem walk (v0 : Value) (x0 : Dl) (v1 : Value) (x1 : Dl) (w : World) (K0 : DlW w v0 x0) (F0 : x0.wf) (K1 : DlW w v1 x1) (F1 : x1.wf) :
    Calls Try.prog 5 #[v0, v1] w fun e w' => e = .returned (.bool true) ∧ Below w.heap.size w w' := by
  obtain ⟨a90, n90, c90, rfl⟩ := K0.shape
  obtain ⟨a91, n91, c91, rfl⟩ := K1.shape
  by_cases hbig0 : 1048576 < x0.parts
  · obtain ⟨hz9, hX9, hY9, hB9⟩ := two w #[.bool x0.ok, .int .i64 x0.ver, .slice a90 n90 c90] #[.bool x1.ok, .int .i64 x1.ver, .slice a91 n91 c91] 50 50
    have HB := Lib.hid hB9
    have HXp0 := Lib.hid hX9
    have HXp1 := Lib.hid hY9
    have hs1 : w.heap.size + 2 ≤ (World.alloc (World.alloc w (.cells #[.bool x0.ok, .int .i64 x0.ver, .slice a90 n90 c90] 50)) (.cells #[.bool x1.ok, .int .i64 x1.ver, .slice a91 n91 c91] 50)).heap.size := by omega
    clear hB9 hX9 hY9 hz9
    go_enter Try.func5, Try.ntmps5
    obtain ⟨eap0, ebp0, ecp0, -⟩ := deal_cells HXp0.out
    obtain ⟨eap1, ebp1, ecp1, -⟩ := deal_cells HXp1.out
    go_wp2_with fail
    clear eap0 ebp0 ecp0 eap1 ebp1 ecp1
    generalize hgen : (World.alloc (World.alloc w (.cells #[.bool x0.ok, .int .i64 x0.ver, .slice a90 n90 c90] 50)) (.cells #[.bool x1.ok, .int .i64 x1.ver, .slice a91 n91 c91] 50)) = w_1 at *
    clear hgen
    refine (szDeal_no (1048576) (K0.same HB.out) (by omega) (by omega) (by omega)).mono ?_
    rintro e w' ⟨rfl, hb⟩
    have HB2 := Lib.hid (HB.out.trans (hb.mono HB.out.size))
    go_wp2_with fail
    go_ret
    exact ⟨rfl, HB2.out⟩
  by_cases hbig1 : 1048576 < x0.parts + x1.parts
  · obtain ⟨hz9, hX9, hY9, hB9⟩ := two w #[.bool x0.ok, .int .i64 x0.ver, .slice a90 n90 c90] #[.bool x1.ok, .int .i64 x1.ver, .slice a91 n91 c91] 50 50
    have HB := Lib.hid hB9
    have HXp0 := Lib.hid hX9
    have HXp1 := Lib.hid hY9
    have hs1 : w.heap.size + 2 ≤ (World.alloc (World.alloc w (.cells #[.bool x0.ok, .int .i64 x0.ver, .slice a90 n90 c90] 50)) (.cells #[.bool x1.ok, .int .i64 x1.ver, .slice a91 n91 c91] 50)).heap.size := by omega
    clear hB9 hX9 hY9 hz9
    go_enter Try.func5, Try.ntmps5
    obtain ⟨eap0, ebp0, ecp0, -⟩ := deal_cells HXp0.out
    obtain ⟨eap1, ebp1, ecp1, -⟩ := deal_cells HXp1.out
    go_wp2_with fail
    clear eap0 ebp0 ecp0 eap1 ebp1 ecp1
    generalize hgen : (World.alloc (World.alloc w (.cells #[.bool x0.ok, .int .i64 x0.ver, .slice a90 n90 c90] 50)) (.cells #[.bool x1.ok, .int .i64 x1.ver, .slice a91 n91 c91] 50)) = w_1 at *
    clear hgen
    refine (szDeal_yes (1048576) (K0.same HB.out) (by omega) (by omega)).mono ?_
    rintro e w_2 ⟨rfl, hb⟩
    have hs2 : w_1.heap.size ≤ w_2.heap.size := hb.size
    replace HXp0 := Lib.hid (((hb).block _ (by omega)).trans HXp0.out)
    replace HXp1 := Lib.hid (((hb).block _ (by omega)).trans HXp1.out)
    replace HB := Lib.hid (HB.out.trans (hb.mono HB.out.size))
    clear hb
    obtain ⟨eap0, ebp0, ecp0, -⟩ := deal_cells HXp0.out
    obtain ⟨eap1, ebp1, ecp1, -⟩ := deal_cells HXp1.out
    go_wp2_with fail
    clear eap0 ebp0 ecp0 eap1 ebp1 ecp1
    refine (szDeal_no (1048576 - x0.parts) (K1.same HB.out) (by omega) (by omega) (by omega)).mono ?_
    rintro e w' ⟨rfl, hb⟩
    have HB2 := Lib.hid (HB.out.trans (hb.mono HB.out.size))
    go_wp2_with fail
    go_ret
    exact ⟨rfl, HB2.out⟩
  have HK0 := Lib.hid K0
  have hn0 : x0.parts ≤ 1048576 := by omega
  have HK1 := Lib.hid K1
  have hn1 : x1.parts ≤ 1048576 := by omega
  skip
  clear K0 F0 K1 F1
  obtain ⟨hz9, hX9, hY9, hB9⟩ := two w #[.bool x0.ok, .int .i64 x0.ver, .slice a90 n90 c90] #[.bool x1.ok, .int .i64 x1.ver, .slice a91 n91 c91] 50 50
  have HB := Lib.hid hB9
  have HXp0 := Lib.hid hX9
  have HXp1 := Lib.hid hY9
  have hs1 : w.heap.size + 2 ≤ (World.alloc (World.alloc w (.cells #[.bool x0.ok, .int .i64 x0.ver, .slice a90 n90 c90] 50)) (.cells #[.bool x1.ok, .int .i64 x1.ver, .slice a91 n91 c91] 50)).heap.size := by omega
  clear hB9 hX9 hY9 hz9
  go_enter Try.func5, Try.ntmps5
  obtain ⟨eap0, ebp0, ecp0, -⟩ := deal_cells HXp0.out
  obtain ⟨eap1, ebp1, ecp1, -⟩ := deal_cells HXp1.out
  go_wp2_with fail
  clear eap0 ebp0 ecp0 eap1 ebp1 ecp1
  generalize hgen : (World.alloc (World.alloc w (.cells #[.bool x0.ok, .int .i64 x0.ver, .slice a90 n90 c90] 50)) (.cells #[.bool x1.ok, .int .i64 x1.ver, .slice a91 n91 c91] 50)) = w_1 at *
  clear hgen
  refine (szDeal_yes (1048576) (HK0.out.same HB.out) (by omega) (by omega)).mono ?_
  rintro e w_2 ⟨rfl, hb⟩
  have hs2 : w_1.heap.size ≤ w_2.heap.size := hb.size
  replace HXp0 := Lib.hid (((hb).block _ (by omega)).trans HXp0.out)
  replace HXp1 := Lib.hid (((hb).block _ (by omega)).trans HXp1.out)
  replace HB := Lib.hid (HB.out.trans (hb.mono HB.out.size))
  clear hb
  obtain ⟨eap0, ebp0, ecp0, -⟩ := deal_cells HXp0.out
  obtain ⟨eap1, ebp1, ecp1, -⟩ := deal_cells HXp1.out
  go_wp2_with fail
  clear eap0 ebp0 ecp0 eap1 ebp1 ecp1
  refine (szDeal_yes (1048576 - x0.parts) (HK1.out.same HB.out) (by omega) (by omega)).mono ?_
  rintro e w_3 ⟨rfl, hb⟩
  have hs3 : w_2.heap.size ≤ w_3.heap.size := hb.size
  replace HXp0 := Lib.hid (((hb).block _ (by omega)).trans HXp0.out)
  replace HXp1 := Lib.hid (((hb).block _ (by omega)).trans HXp1.out)
  replace HB := Lib.hid (HB.out.trans (hb.mono HB.out.size))
  clear hb
  obtain ⟨eap0, ebp0, ecp0, -⟩ := deal_cells HXp0.out
  obtain ⟨eap1, ebp1, ecp1, -⟩ := deal_cells HXp1.out
  go_wp2_with fail
  clear eap0 ebp0 ecp0 eap1 ebp1 ecp1
  have CXp0 := Lib.hid (deal_cells HXp0.out)
  have CXp1 := Lib.hid (deal_cells HXp1.out)
  have HBd : Hid (Below w_3.heap.size w_3 w_3.drew) := Lib.hid (Below.refl _ _).drew
  refine wp_region_held_drew (S := fun w9 => w9.cell? ⟨w.heap.size, 0, none⟩ = some (.bool x0.ok) ∧ w9.cell? ⟨w.heap.size, 1, none⟩ = some (.int .i64 x0.ver) ∧ w9.cell? ⟨w.heap.size, 2, none⟩ = some (.slice a90 n90 c90) ∧ w9.cell? ⟨w.heap.size + 1, 0, none⟩ = some (.bool x1.ok) ∧ w9.cell? ⟨w.heap.size + 1, 1, none⟩ = some (.int .i64 x1.ver) ∧ w9.cell? ⟨w.heap.size + 1, 2, none⟩ = some (.slice a91 n91 c91)) (by kernel_rfl) ⟨cell_stay CXp0.out.1 HBd.out, cell_stay CXp0.out.2.1 HBd.out, cell_stay CXp0.out.2.2.1 HBd.out, cell_stay CXp1.out.1 HBd.out, cell_stay CXp1.out.2.1 HBd.out, cell_stay CXp1.out.2.2.1 HBd.out⟩ (fun hHeld => ?_)
  refine wpAnyH_take (i := 0) (v := ?v2001) (by simp only [List.getElem?_toArray, List.getElem?_cons_succ, List.getElem?_cons_zero]; rfl) (by kernel_rfl) (by kernel_rfl) (by kernel_rfl) (by exact fun _ _ _ h => h) (Or.inl ⟨by rfl, fun w9 hS9 => ?hy2001⟩) hHeld ?rest2001
  case hy2001 =>
    dsimp only at hS9
    obtain ⟨z0, z1, z2, z3, z4, z5⟩ := hS9
    go_simp
    try with_reducible rfl
  try simp only [Act.put, List.setIfInBounds_toArray, List.set_cons_zero, List.set_cons_succ]
  refine wpAnyH_take (i := 2) (v := ?v2002) (by simp only [List.getElem?_toArray, List.getElem?_cons_succ, List.getElem?_cons_zero]; rfl) (by kernel_rfl) (by kernel_rfl) (by kernel_rfl) (by exact fun _ _ _ h => h) (Or.inl ⟨by rfl, fun w9 hS9 => ?hy2002⟩) hHeld ?rest2002
  case hy2002 =>
    dsimp only at hS9
    obtain ⟨z0, z1, z2, z3, z4, z5⟩ := hS9
    go_simp
    try with_reducible rfl
  try simp only [Act.put, List.setIfInBounds_toArray, List.set_cons_zero, List.set_cons_succ]
  refine wpAnyH_ready (rs := [1]) (by kernel_rfl) (by simp) (AllReadyH.cons (by simp only [List.getElem?_toArray, List.getElem?_cons_succ, List.getElem?_cons_zero]; rfl) (fun K hK => ?_) AllReadyH.nil)
  go_simp
  refine (toDeal_any (HK0.out.same (HB.out.trans (HBd.out.mono HB.out.size))) (by omega)).mono ?_
  rintro e w1 ⟨b8, rfl, ho1, hb1⟩
  have HB1 : Hid (Below w_3.heap.size w_3 w1) := Lib.hid (HBd.out.trans (hb1.mono HBd.out.size))
  have HO8 := Lib.hid ho1.dl
  clear ho1
  clear hb1
  go_wp2_with fail
  refine hK.out _ _ ⟨cell_stay CXp0.out.1 HB1.out, cell_stay CXp0.out.2.1 HB1.out, cell_stay CXp0.out.2.2.1 HB1.out, cell_stay CXp1.out.1 HB1.out, cell_stay CXp1.out.2.1 HB1.out, cell_stay CXp1.out.2.2.1 HB1.out⟩ (fun hHeld => ?_)
  clear hK K
  try simp only [Act.put, List.setIfInBounds_toArray, List.set_cons_zero, List.set_cons_succ]
  refine wpAnyH_ready (rs := [3]) (by kernel_rfl) (by simp) (AllReadyH.cons (by simp only [List.getElem?_toArray, List.getElem?_cons_succ, List.getElem?_cons_zero]; rfl) (fun K hK => ?_) AllReadyH.nil)
  go_simp
  refine (toDeal_any (HK1.out.same (HB.out.trans (HB1.out.mono HB.out.size))) (by omega)).mono ?_
  rintro e w2 ⟨b9, rfl, ho2, hb2⟩
  have HB2 : Hid (Below w_3.heap.size w_3 w2) := Lib.hid (HB1.out.trans (hb2.mono HB1.out.size))
  have HO9 := Lib.hid ho2.dl
  replace HO8 := Lib.hid (HO8.out.same hb2)
  clear ho2
  clear hb2
  go_wp2_with fail
  refine hK.out _ _ ⟨cell_stay CXp0.out.1 HB2.out, cell_stay CXp0.out.2.1 HB2.out, cell_stay CXp0.out.2.2.1 HB2.out, cell_stay CXp1.out.1 HB2.out, cell_stay CXp1.out.2.1 HB2.out, cell_stay CXp1.out.2.2.1 HB2.out⟩ (fun hHeld => ?_)
  clear hK K
  try simp only [Act.put, List.setIfInBounds_toArray, List.set_cons_zero, List.set_cons_succ]
  refine wpAnyH_ready (rs := [4]) (by kernel_rfl) (by simp) (AllReadyH.cons (by simp only [List.getElem?_toArray, List.getElem?_cons_succ, List.getElem?_cons_zero]; rfl) (fun K hK => ?_) AllReadyH.nil)
  go_simp
  refine (specEqualDeals_any HO8.out HO9.out).mono ?_
  rintro e w3 ⟨rfl, hb3⟩
  have HB3 : Hid (Below w_3.heap.size w_3 w3) := Lib.hid (HB2.out.trans (hb3.mono HB2.out.size))
  clear hb3
  go_wp2_with fail
  refine hK.out _ _ ⟨cell_stay CXp0.out.1 HB3.out, cell_stay CXp0.out.2.1 HB3.out, cell_stay CXp0.out.2.2.1 HB3.out, cell_stay CXp1.out.1 HB3.out, cell_stay CXp1.out.2.1 HB3.out, cell_stay CXp1.out.2.2.1 HB3.out⟩ (fun hHeld => ?_)
  clear hK K
  try simp only [Act.put, List.setIfInBounds_toArray, List.set_cons_zero, List.set_cons_succ]
  refine wpAnyH_take (i := 5) (v := ?v2003) (by simp only [List.getElem?_toArray, List.getElem?_cons_succ, List.getElem?_cons_zero]; rfl) (by kernel_rfl) (by kernel_rfl) (by kernel_rfl) (by exact fun _ _ _ h => h) (Or.inl ⟨by rfl, fun w9 hS9 => ?hy2003⟩) hHeld ?rest2003
  case hy2003 =>
    dsimp only at hS9
    obtain ⟨z0, z1, z2, z3, z4, z5⟩ := hS9
    go_simp
    try with_reducible rfl
  try simp only [Act.put, List.setIfInBounds_toArray, List.set_cons_zero, List.set_cons_succ]
  refine wpAnyH_done (by kernel_rfl) ?_ _
  obtain ⟨w_4, hwv⟩ : ∃ u, u = w3 := ⟨w3, rfl⟩
  subst hwv
  have hs4 : w_3.heap.size ≤ w_4.heap.size := HB3.out.size
  replace HXp0 := Lib.hid (((HB3.out).block _ (by omega)).trans HXp0.out)
  replace HXp1 := Lib.hid (((HB3.out).block _ (by omega)).trans HXp1.out)
  replace HB := Lib.hid (HB.out.trans (HB3.out.mono HB.out.size))
  clear CXp0 CXp1
  obtain ⟨eap0, ebp0, ecp0, -⟩ := deal_cells HXp0.out
  obtain ⟨eap1, ebp1, ecp1, -⟩ := deal_cells HXp1.out
  go_wp2_with fail
  clear eap0 ebp0 ecp0 eap1 ebp1 ecp1
  refine (toDeal_any (HK0.out.same HB.out) (by omega)).mono ?_
  rintro e w_5 ⟨v21, rfl, ho, hb⟩
  have HN21 := Lib.hid ho
  have hs5 : w_4.heap.size ≤ w_5.heap.size := hb.size
  replace HXp0 := Lib.hid (((hb).block _ (by omega)).trans HXp0.out)
  replace HXp1 := Lib.hid (((hb).block _ (by omega)).trans HXp1.out)
  replace HB := Lib.hid (HB.out.trans (hb.mono HB.out.size))
  clear ho
  clear hb
  have HO21 := HN21
  clear HN21
  obtain ⟨a21, n21, c21, rfl⟩ := HO21.out.shape
  have HAL := Lib.hid (alloc_same w_5 (.cells #[.bool x0.ok, .int .i64 x0.ver, .slice a21 n21 c21] 53))
  have HX21 := Lib.hid (heap_alloc_new w_5 (.cells #[.bool x0.ok, .int .i64 x0.ver, .slice a21 n21 c21] 53 (0, 0)))
  change Hid ((World.alloc w_5 (.cells #[.bool x0.ok, .int .i64 x0.ver, .slice a21 n21 c21] 53)).heap[w_5.heap.size]? = _) at HX21
  replace HO21 := Lib.hid (HO21.out.same HAL.out)
  replace HXp0 := Lib.hid (((HAL.out).block _ (by omega)).trans HXp0.out)
  replace HXp1 := Lib.hid (((HAL.out).block _ (by omega)).trans HXp1.out)
  replace HB := Lib.hid (HB.out.trans (HAL.out.mono HB.out.size))
  have hs6 : w_5.heap.size < (World.alloc w_5 (.cells #[.bool x0.ok, .int .i64 x0.ver, .slice a21 n21 c21] 53)).heap.size := by simp
  obtain ⟨eap0, ebp0, ecp0, -⟩ := deal_cells HXp0.out
  obtain ⟨eap1, ebp1, ecp1, -⟩ := deal_cells HXp1.out
  obtain ⟨ea21, eb21, ec21, -⟩ := deal_cells HX21.out
  clear HAL
  go_wp2_with fail
  clear eap0 ebp0 ecp0 eap1 ebp1 ecp1 ea21 eb21 ec21
  generalize hgen : World.alloc w_5 (.cells #[.bool x0.ok, .int .i64 x0.ver, .slice a21 n21 c21] 53) = w_6 at *
  clear hgen
  refine (toDeal_any (HK1.out.same HB.out) (by omega)).mono ?_
  rintro e w_7 ⟨v22, rfl, ho, hb⟩
  have HN22 := Lib.hid ho
  have hs7 : w_6.heap.size ≤ w_7.heap.size := hb.size
  replace HO21 := Lib.hid (HO21.out.same hb)
  replace HXp0 := Lib.hid (((hb).block _ (by omega)).trans HXp0.out)
  replace HXp1 := Lib.hid (((hb).block _ (by omega)).trans HXp1.out)
  replace HX21 := Lib.hid (((hb).block _ (by omega)).trans HX21.out)
  replace HB := Lib.hid (HB.out.trans (hb.mono HB.out.size))
  clear ho
  clear hb
  have HO22 := HN22
  clear HN22
  obtain ⟨a22, n22, c22, rfl⟩ := HO22.out.shape
  have HAL := Lib.hid (alloc_same w_7 (.cells #[.bool x1.ok, .int .i64 x1.ver, .slice a22 n22 c22] 53))
  have HX22 := Lib.hid (heap_alloc_new w_7 (.cells #[.bool x1.ok, .int .i64 x1.ver, .slice a22 n22 c22] 53 (0, 0)))
  change Hid ((World.alloc w_7 (.cells #[.bool x1.ok, .int .i64 x1.ver, .slice a22 n22 c22] 53)).heap[w_7.heap.size]? = _) at HX22
  replace HO21 := Lib.hid (HO21.out.same HAL.out)
  replace HO22 := Lib.hid (HO22.out.same HAL.out)
  replace HXp0 := Lib.hid (((HAL.out).block _ (by omega)).trans HXp0.out)
  replace HXp1 := Lib.hid (((HAL.out).block _ (by omega)).trans HXp1.out)
  replace HX21 := Lib.hid (((HAL.out).block _ (by omega)).trans HX21.out)
  replace HB := Lib.hid (HB.out.trans (HAL.out.mono HB.out.size))
  have hs8 : w_7.heap.size < (World.alloc w_7 (.cells #[.bool x1.ok, .int .i64 x1.ver, .slice a22 n22 c22] 53)).heap.size := by simp
  obtain ⟨eap0, ebp0, ecp0, -⟩ := deal_cells HXp0.out
  obtain ⟨eap1, ebp1, ecp1, -⟩ := deal_cells HXp1.out
  obtain ⟨ea21, eb21, ec21, -⟩ := deal_cells HX21.out
  obtain ⟨ea22, eb22, ec22, -⟩ := deal_cells HX22.out
  clear HAL
  go_wp2_with fail
  clear eap0 ebp0 ecp0 eap1 ebp1 ecp1 ea21 eb21 ec21 ea22 eb22 ec22
  generalize hgen : World.alloc w_7 (.cells #[.bool x1.ok, .int .i64 x1.ver, .slice a22 n22 c22] 53) = w_8 at *
  clear hgen
  refine (equalDeals_any HO21.out.dl HO22.out.dl).mono ?_
  rintro e w_9 ⟨rfl, hb⟩
  have hs9 : w_8.heap.size ≤ w_9.heap.size := hb.size
  replace HO21 := Lib.hid (HO21.out.same hb)
  replace HO22 := Lib.hid (HO22.out.same hb)
  replace HXp0 := Lib.hid (((hb).block _ (by omega)).trans HXp0.out)
  replace HXp1 := Lib.hid (((hb).block _ (by omega)).trans HXp1.out)
  replace HX21 := Lib.hid (((hb).block _ (by omega)).trans HX21.out)
  replace HX22 := Lib.hid (((hb).block _ (by omega)).trans HX22.out)
  replace HB := Lib.hid (HB.out.trans (hb.mono HB.out.size))
  clear hb
  obtain ⟨eap0, ebp0, ecp0, -⟩ := deal_cells HXp0.out
  obtain ⟨eap1, ebp1, ecp1, -⟩ := deal_cells HXp1.out
  obtain ⟨ea21, eb21, ec21, -⟩ := deal_cells HX21.out
  obtain ⟨ea22, eb22, ec22, -⟩ := deal_cells HX22.out
  go_wp2_with fail
  clear eap0 ebp0 ecp0 eap1 ebp1 ecp1 ea21 eb21 ec21 ea22 eb22 ec22
  have CX21 := Lib.hid (deal_cells HX21.out)
  have CXp0 := Lib.hid (deal_cells HXp0.out)
  have HBd : Hid (Below w_9.heap.size w_9 w_9.drew) := Lib.hid (Below.refl _ _).drew
  refine wp_region_held_drew (S := fun w9 => w9.cell? ⟨w_5.heap.size, 0, none⟩ = some (.bool x0.ok) ∧ w9.cell? ⟨w_5.heap.size, 1, none⟩ = some (.int .i64 x0.ver) ∧ w9.cell? ⟨w_5.heap.size, 2, none⟩ = some (.slice a21 n21 c21) ∧ w9.cell? ⟨w.heap.size, 0, none⟩ = some (.bool x0.ok) ∧ w9.cell? ⟨w.heap.size, 1, none⟩ = some (.int .i64 x0.ver) ∧ w9.cell? ⟨w.heap.size, 2, none⟩ = some (.slice a90 n90 c90)) (by kernel_rfl) ⟨cell_stay CX21.out.1 HBd.out, cell_stay CX21.out.2.1 HBd.out, cell_stay CX21.out.2.2.1 HBd.out, cell_stay CXp0.out.1 HBd.out, cell_stay CXp0.out.2.1 HBd.out, cell_stay CXp0.out.2.2.1 HBd.out⟩ (fun hHeld => ?_)
  refine wpAnyH_take (i := 0) (v := ?v2004) (by simp only [List.getElem?_toArray, List.getElem?_cons_succ, List.getElem?_cons_zero]; rfl) (by kernel_rfl) (by kernel_rfl) (by kernel_rfl) (by exact fun _ _ _ h => h) (Or.inl ⟨by rfl, fun w9 hS9 => ?hy2004⟩) hHeld ?rest2004
  case hy2004 =>
    dsimp only at hS9
    obtain ⟨z0, z1, z2, z3, z4, z5⟩ := hS9
    go_simp
    try with_reducible rfl
  try simp only [Act.put, List.setIfInBounds_toArray, List.set_cons_zero, List.set_cons_succ]
  refine wpAnyH_take (i := 1) (v := ?v2005) (by simp only [List.getElem?_toArray, List.getElem?_cons_succ, List.getElem?_cons_zero]; rfl) (by kernel_rfl) (by kernel_rfl) (by kernel_rfl) (by exact fun _ _ _ h => h) (Or.inl ⟨by rfl, fun w9 hS9 => ?hy2005⟩) hHeld ?rest2005
  case hy2005 =>
    dsimp only at hS9
    obtain ⟨z0, z1, z2, z3, z4, z5⟩ := hS9
    go_simp
    try with_reducible rfl
  try simp only [Act.put, List.setIfInBounds_toArray, List.set_cons_zero, List.set_cons_succ]
  refine wpAnyH_ready (rs := [2]) (by kernel_rfl) (by simp) (AllReadyH.cons (by simp only [List.getElem?_toArray, List.getElem?_cons_succ, List.getElem?_cons_zero]; rfl) (fun K hK => ?_) AllReadyH.nil)
  go_simp
  refine (toDeal_any (HK0.out.same (HB.out.trans (HBd.out.mono HB.out.size))) (by omega)).mono ?_
  rintro e w1 ⟨b9, rfl, ho1, hb1⟩
  have HB1 : Hid (Below w_9.heap.size w_9 w1) := Lib.hid (HBd.out.trans (hb1.mono HBd.out.size))
  have HO9 := Lib.hid ho1.dl
  clear ho1
  clear hb1
  go_wp2_with fail
  refine hK.out _ _ ⟨cell_stay CX21.out.1 HB1.out, cell_stay CX21.out.2.1 HB1.out, cell_stay CX21.out.2.2.1 HB1.out, cell_stay CXp0.out.1 HB1.out, cell_stay CXp0.out.2.1 HB1.out, cell_stay CXp0.out.2.2.1 HB1.out⟩ (fun hHeld => ?_)
  clear hK K
  try simp only [Act.put, List.setIfInBounds_toArray, List.set_cons_zero, List.set_cons_succ]
  refine wpAnyH_ready (rs := [3]) (by kernel_rfl) (by simp) (AllReadyH.cons (by simp only [List.getElem?_toArray, List.getElem?_cons_succ, List.getElem?_cons_zero]; rfl) (fun K hK => ?_) AllReadyH.nil)
  go_simp
  refine (eqDeal_yes (HO21.out.dl.same HB1.out) HO9.out).mono ?_
  rintro e w2 ⟨rfl, hb2⟩
  have HB2 : Hid (Below w_9.heap.size w_9 w2) := Lib.hid (HB1.out.trans (hb2.mono HB1.out.size))
  clear hb2
  go_wp2_with fail
  refine hK.out _ _ ⟨cell_stay CX21.out.1 HB2.out, cell_stay CX21.out.2.1 HB2.out, cell_stay CX21.out.2.2.1 HB2.out, cell_stay CXp0.out.1 HB2.out, cell_stay CXp0.out.2.1 HB2.out, cell_stay CXp0.out.2.2.1 HB2.out⟩ (fun hHeld => ?_)
  clear hK K
  try simp only [Act.put, List.setIfInBounds_toArray, List.set_cons_zero, List.set_cons_succ]
  refine wpAnyH_take (i := 4) (v := ?v2006) (by simp only [List.getElem?_toArray, List.getElem?_cons_succ, List.getElem?_cons_zero]; rfl) (by kernel_rfl) (by kernel_rfl) (by kernel_rfl) (by exact fun _ _ _ h => h) (Or.inl ⟨by rfl, fun w9 hS9 => ?hy2006⟩) hHeld ?rest2006
  case hy2006 =>
    dsimp only at hS9
    obtain ⟨z0, z1, z2, z3, z4, z5⟩ := hS9
    go_simp
    try with_reducible rfl
  try simp only [Act.put, List.setIfInBounds_toArray, List.set_cons_zero, List.set_cons_succ]
  refine wpAnyH_done (by kernel_rfl) ?_ _
  obtain ⟨w_10, hwv⟩ : ∃ u, u = w2 := ⟨w2, rfl⟩
  subst hwv
  have hs10 : w_9.heap.size ≤ w_10.heap.size := HB2.out.size
  replace HO21 := Lib.hid (HO21.out.same HB2.out)
  replace HO22 := Lib.hid (HO22.out.same HB2.out)
  replace HXp0 := Lib.hid (((HB2.out).block _ (by omega)).trans HXp0.out)
  replace HXp1 := Lib.hid (((HB2.out).block _ (by omega)).trans HXp1.out)
  replace HX21 := Lib.hid (((HB2.out).block _ (by omega)).trans HX21.out)
  replace HX22 := Lib.hid (((HB2.out).block _ (by omega)).trans HX22.out)
  replace HB := Lib.hid (HB.out.trans (HB2.out.mono HB.out.size))
  clear CX21 CXp0
  obtain ⟨eap0, ebp0, ecp0, -⟩ := deal_cells HXp0.out
  obtain ⟨eap1, ebp1, ecp1, -⟩ := deal_cells HXp1.out
  obtain ⟨ea21, eb21, ec21, -⟩ := deal_cells HX21.out
  obtain ⟨ea22, eb22, ec22, -⟩ := deal_cells HX22.out
  go_wp2_with fail
  clear eap0 ebp0 ecp0 eap1 ebp1 ecp1 ea21 eb21 ec21 ea22 eb22 ec22
  have CX22 := Lib.hid (deal_cells HX22.out)
  have CXp1 := Lib.hid (deal_cells HXp1.out)
  have HBd : Hid (Below w_10.heap.size w_10 w_10.drew) := Lib.hid (Below.refl _ _).drew
  refine wp_region_held_drew (S := fun w9 => w9.cell? ⟨w_7.heap.size, 0, none⟩ = some (.bool x1.ok) ∧ w9.cell? ⟨w_7.heap.size, 1, none⟩ = some (.int .i64 x1.ver) ∧ w9.cell? ⟨w_7.heap.size, 2, none⟩ = some (.slice a22 n22 c22) ∧ w9.cell? ⟨w.heap.size + 1, 0, none⟩ = some (.bool x1.ok) ∧ w9.cell? ⟨w.heap.size + 1, 1, none⟩ = some (.int .i64 x1.ver) ∧ w9.cell? ⟨w.heap.size + 1, 2, none⟩ = some (.slice a91 n91 c91)) (by kernel_rfl) ⟨cell_stay CX22.out.1 HBd.out, cell_stay CX22.out.2.1 HBd.out, cell_stay CX22.out.2.2.1 HBd.out, cell_stay CXp1.out.1 HBd.out, cell_stay CXp1.out.2.1 HBd.out, cell_stay CXp1.out.2.2.1 HBd.out⟩ (fun hHeld => ?_)
  refine wpAnyH_take (i := 0) (v := ?v2007) (by simp only [List.getElem?_toArray, List.getElem?_cons_succ, List.getElem?_cons_zero]; rfl) (by kernel_rfl) (by kernel_rfl) (by kernel_rfl) (by exact fun _ _ _ h => h) (Or.inl ⟨by rfl, fun w9 hS9 => ?hy2007⟩) hHeld ?rest2007
  case hy2007 =>
    dsimp only at hS9
    obtain ⟨z0, z1, z2, z3, z4, z5⟩ := hS9
    go_simp
    try with_reducible rfl
  try simp only [Act.put, List.setIfInBounds_toArray, List.set_cons_zero, List.set_cons_succ]
  refine wpAnyH_take (i := 1) (v := ?v2008) (by simp only [List.getElem?_toArray, List.getElem?_cons_succ, List.getElem?_cons_zero]; rfl) (by kernel_rfl) (by kernel_rfl) (by kernel_rfl) (by exact fun _ _ _ h => h) (Or.inl ⟨by rfl, fun w9 hS9 => ?hy2008⟩) hHeld ?rest2008
  case hy2008 =>
    dsimp only at hS9
    obtain ⟨z0, z1, z2, z3, z4, z5⟩ := hS9
    go_simp
    try with_reducible rfl
  try simp only [Act.put, List.setIfInBounds_toArray, List.set_cons_zero, List.set_cons_succ]
  refine wpAnyH_ready (rs := [2]) (by kernel_rfl) (by simp) (AllReadyH.cons (by simp only [List.getElem?_toArray, List.getElem?_cons_succ, List.getElem?_cons_zero]; rfl) (fun K hK => ?_) AllReadyH.nil)
  go_simp
  refine (toDeal_any (HK1.out.same (HB.out.trans (HBd.out.mono HB.out.size))) (by omega)).mono ?_
  rintro e w1 ⟨b9, rfl, ho1, hb1⟩
  have HB1 : Hid (Below w_10.heap.size w_10 w1) := Lib.hid (HBd.out.trans (hb1.mono HBd.out.size))
  have HO9 := Lib.hid ho1.dl
  clear ho1
  clear hb1
  go_wp2_with fail
  refine hK.out _ _ ⟨cell_stay CX22.out.1 HB1.out, cell_stay CX22.out.2.1 HB1.out, cell_stay CX22.out.2.2.1 HB1.out, cell_stay CXp1.out.1 HB1.out, cell_stay CXp1.out.2.1 HB1.out, cell_stay CXp1.out.2.2.1 HB1.out⟩ (fun hHeld => ?_)
  clear hK K
  try simp only [Act.put, List.setIfInBounds_toArray, List.set_cons_zero, List.set_cons_succ]
  refine wpAnyH_ready (rs := [3]) (by kernel_rfl) (by simp) (AllReadyH.cons (by simp only [List.getElem?_toArray, List.getElem?_cons_succ, List.getElem?_cons_zero]; rfl) (fun K hK => ?_) AllReadyH.nil)
  go_simp
  refine (eqDeal_yes (HO22.out.dl.same HB1.out) HO9.out).mono ?_
  rintro e w2 ⟨rfl, hb2⟩
  have HB2 : Hid (Below w_10.heap.size w_10 w2) := Lib.hid (HB1.out.trans (hb2.mono HB1.out.size))
  clear hb2
  go_wp2_with fail
  refine hK.out _ _ ⟨cell_stay CX22.out.1 HB2.out, cell_stay CX22.out.2.1 HB2.out, cell_stay CX22.out.2.2.1 HB2.out, cell_stay CXp1.out.1 HB2.out, cell_stay CXp1.out.2.1 HB2.out, cell_stay CXp1.out.2.2.1 HB2.out⟩ (fun hHeld => ?_)
  clear hK K
  try simp only [Act.put, List.setIfInBounds_toArray, List.set_cons_zero, List.set_cons_succ]
  refine wpAnyH_take (i := 4) (v := ?v2009) (by simp only [List.getElem?_toArray, List.getElem?_cons_succ, List.getElem?_cons_zero]; rfl) (by kernel_rfl) (by kernel_rfl) (by kernel_rfl) (by exact fun _ _ _ h => h) (Or.inl ⟨by rfl, fun w9 hS9 => ?hy2009⟩) hHeld ?rest2009
  case hy2009 =>
    dsimp only at hS9
    obtain ⟨z0, z1, z2, z3, z4, z5⟩ := hS9
    go_simp
    try with_reducible rfl
  try simp only [Act.put, List.setIfInBounds_toArray, List.set_cons_zero, List.set_cons_succ]
  refine wpAnyH_done (by kernel_rfl) ?_ _
  obtain ⟨w_11, hwv⟩ : ∃ u, u = w2 := ⟨w2, rfl⟩
  subst hwv
  have hs11 : w_10.heap.size ≤ w_11.heap.size := HB2.out.size
  replace HO21 := Lib.hid (HO21.out.same HB2.out)
  replace HO22 := Lib.hid (HO22.out.same HB2.out)
  replace HXp0 := Lib.hid (((HB2.out).block _ (by omega)).trans HXp0.out)
  replace HXp1 := Lib.hid (((HB2.out).block _ (by omega)).trans HXp1.out)
  replace HX21 := Lib.hid (((HB2.out).block _ (by omega)).trans HX21.out)
  replace HX22 := Lib.hid (((HB2.out).block _ (by omega)).trans HX22.out)
  replace HB := Lib.hid (HB.out.trans (HB2.out.mono HB.out.size))
  clear CX22 CXp1
  obtain ⟨eap0, ebp0, ecp0, -⟩ := deal_cells HXp0.out
  obtain ⟨eap1, ebp1, ecp1, -⟩ := deal_cells HXp1.out
  obtain ⟨ea21, eb21, ec21, -⟩ := deal_cells HX21.out
  obtain ⟨ea22, eb22, ec22, -⟩ := deal_cells HX22.out
  go_wp2_with fail
  clear eap0 ebp0 ecp0 eap1 ebp1 ecp1 ea21 eb21 ec21 ea22 eb22 ec22
  go_ret
  exact ⟨rfl, HB.out⟩

set_option maxRecDepth 100000 in
theorem lifted (os : Os) (started : os.Started) (H : Type) (enc : TypeId × Value → H) :
    ReturnsInHanded {} Try.checked os 5 .any (Rows.fnExactEqualDealsSpec.pre6 enc Try.prog Try.f5 Rows.fnExactEqualDealsRow.domain false) (Rows.fnExactEqualDealsSpec.post enc Try.prog Try.f5 false true false false) := by
  refine returnsInHanded_of_change (C := Try.checked) own started (by kernel_rfl) Try.func5
    (ChangeSpec.witness6 (enc := enc) (C := Try.checked) false ⟨#[], #[.agg #[.bool false, .int .i64 0, .slice none 0 0], .agg #[.bool false, .int .i64 0, .slice none 0 0]], []⟩ 8 (by kernel_rfl) (by kernel_rfl) (by kernel_rfl) (by kernel_rfl)) ?_
  intro W base args ds gs before hval0 hW hcnd _
  have hval : ∀ (j : Nat) t v, Try.f5.params[j]? = some t → args[j]? = some v → Value.okWide Try.prog W .any base t v := hval0
  have hW' := hW
  obtain ⟨p, q, hA0, hV, rfl, hfz, hnd⟩ := hW
  have hA : DataW.TrodAll enc Try.prog W 0 (fun _ => true) true Try.f5.params.toList args.toList ds p := hA0
  rw [Try.params5] at hA hval
  obtain ⟨v0, vs0, d0, ds0, p0, q0, hargs, rfl, rfl, h0, r0⟩ := trodAll_cons hA
  obtain ⟨v1, vs1, d1, ds1, p1, q1, rfl, rfl, rfl, h1, r1⟩ := trodAll_cons r0
  obtain ⟨rfl, rfl, rfl⟩ := trodAll_nil r1
  obtain rfl : args = #[v0, v1] := by cases args; simp_all
  obtain ⟨rfl, rfl⟩ := trodVars_none hV
  have h0k := h0
  have hlt0 : ∀ x ∈ p0, x.block < W.heap.size := fun x hx => by simpa using hW'.lt x (by simp [hx])
  obtain ⟨x0, K0, F0⟩ := open_dl Try.underlying50 (by kernel_rfl) (by kernel_rfl) Try.underlying4 Try.underlying3 Try.underlying22 Try.underlying3 int_cells (hval 0 50 v0 rfl rfl) h0
  have h1k := h1
  have hlt1 : ∀ x ∈ p1, x.block < W.heap.size := fun x hx => by simpa using hW'.lt x (by simp [hx])
  obtain ⟨x1, K1, F1⟩ := open_dl Try.underlying50 (by kernel_rfl) (by kernel_rfl) Try.underlying4 Try.underlying3 Try.underlying22 Try.underlying3 int_cells (hval 1 50 v1 rfl rfl) h1
  clear hA0 hval0
  simp only [List.append_nil] at hW'
  refine (walk v0 x0 v1 x1 W K0 F0 K1 F1).mono fun e W' ⟨he, hb⟩ => ?_
  subst he
  exact ⟨_, rfl, ⟨_, _, _, [], _, [], hW', (trodAll_cons_mk (shut_bool Try.underlying4 _) trodAll_mk0), (trodAll_cons_mk (Below.trod laidOut (by kernel_rfl) (of_decide_eq_true (by kernel_rfl)) h0k hb hlt0) (trodAll_cons_mk (Below.trod laidOut (by kernel_rfl) (of_decide_eq_true (by kernel_rfl)) h1k hb hlt1) trodAll_mk0)), rfl, hb.frame _, fun h => by cases h⟩⟩

theorem over : Rows.fnExactEqualDealsRow.holds Try.pinned (OpenSpec.ofChange Rows.fnExactEqualDealsSpec) :=
  OpenClaim.holds_of_wide 5 Try.f5 rfl rfl rfl rfl rfl rfl rfl ⟨rfl, rfl, rfl, rfl, rfl⟩ rfl rfl rfl rfl rfl (by kernel_rfl) Try.func5 (by kernel_rfl)
    (of_decide_eq_true (by kernel_rfl)) (by unfold Func.isWrapper; first | (rw [if_pos (by decide +kernel)]; kernel_rfl) | (rw [if_neg (by decide +kernel)]; exact ⟨rfl, rfl⟩))
    (fun os started H enc _ => lifted os started H enc)

theorem proved : Rows.FnExactEqualDealsSaid :=
  over
end Go.Proofs.Ytcmjadfpifpknaa.fnExactEqualDeals
