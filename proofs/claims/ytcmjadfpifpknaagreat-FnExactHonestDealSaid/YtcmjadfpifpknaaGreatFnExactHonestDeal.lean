/- HonestDeal: the program answers as its model. -/
import Derived.Test.YtcmjadfpifpknaaGreatG31
import Derived.Test.YtcmjadfpifpknaaGreatG32
import Derived.Test.YtcmjadfpifpknaaGreatG8
import Derived.WalkKit
import Derived.Deep.RegionHeld3
import Derived.ProofKit
import Derived.OpenShut
namespace Go.Proofs.YtcmjadfpifpknaaGreat.fnExactHonestDeal
open Go.ChangeShapes Go.WideShapes Go.ChangeAt Go.RowKit Go.Lib
open Go.ChangeMaps (open_string shut_string)
set_option linter.unusedVariables false

theorem own : ownKnob Tryz.prog.godebug = none := by kernel_rfl
set_option linter.unusedSimpArgs false

set_option maxHeartbeats 4000000 in
set_option maxRecDepth 100000 in
theorem walk (v0 : Value) (x0 : Hel) (a1 : Option Addr) (n1 c1 : Nat) (l1 : List Int) (a2 : Option Addr) (n2 c2 : Nat) (l2 : List Int) (a3 : Int) (w3 : (Lit.int .i64 a3).wf = true) (w : World) (K0 : HelW w v0 x0) (F0 : x0.wf) (K1 : Nums .i64 w a1 n1 l1) (F1 : ∀ x ∈ l1, (Lit.int .i64 x).wf = true) (R1 : n1 ≤ c1 ∧ (c1 : Int) ≤ 9223372036854775807) (K2 : Nums .i64 w a2 n2 l2) (F2 : ∀ x ∈ l2, (Lit.int .i64 x).wf = true) (R2 : n2 ≤ c2 ∧ (c2 : Int) ≤ 9223372036854775807) :
    Calls Tryz.prog 5 #[v0, .slice a1 n1 c1, .slice a2 n2 c2, .int .i64 a3] w fun e w' => e = .returned (.bool true) ∧ Below w.heap.size w w' := by
  obtain ⟨a90, n90, c90, b90, m90, d90, rfl⟩ := K0.shape
  have hfit1 := K1.fits
  have hfit2 := K2.fits
  by_cases hbig1 : 1048576 < n1
  · have HB9 : Hid (Below w.heap.size w (World.alloc w (.cells #[.slice a90 n90 c90, .slice b90 m90 d90] 52))) := Lib.hid (alloc_same w _)
    go_enter Tryz.func5, Tryz.ntmps5
    go_wp2_with fail
    go_ret
    exact ⟨rfl, HB9.out⟩
  by_cases hbig2 : 1048576 < n2
  · have HB9 : Hid (Below w.heap.size w (World.alloc w (.cells #[.slice a90 n90 c90, .slice b90 m90 d90] 52))) := Lib.hid (alloc_same w _)
    go_enter Tryz.func5, Tryz.ntmps5
    go_wp2_with fail
    go_ret
    exact ⟨rfl, HB9.out⟩
  by_cases hbig0 : 1048576 < x0.parts
  · have HB := Lib.hid (alloc_same w (.cells #[.slice a90 n90 c90, .slice b90 m90 d90] 52))
    have HXp0 := Lib.hid (heap_alloc_new w (.cells #[.slice a90 n90 c90, .slice b90 m90 d90] 52 (0, 0)))
    change Hid ((World.alloc w (.cells #[.slice a90 n90 c90, .slice b90 m90 d90] 52)).heap[w.heap.size]? = _) at HXp0
    have hs1 : w.heap.size + 1 ≤ (World.alloc w (.cells #[.slice a90 n90 c90, .slice b90 m90 d90] 52)).heap.size := by simp
    go_enter Tryz.func5, Tryz.ntmps5
    obtain ⟨eap0, ebp0, -⟩ := two_cells HXp0.out
    go_wp2_with fail
    clear eap0 ebp0
    generalize hgen : (World.alloc w (.cells #[.slice a90 n90 c90, .slice b90 m90 d90] 52)) = w_1 at *
    clear hgen
    refine (szHello_no (1048576) (K0.same HB.out) (by omega) (by omega) (by omega)).mono ?_
    rintro e w' ⟨rfl, hb⟩
    have HB2 := Lib.hid (HB.out.trans (hb.mono HB.out.size))
    go_wp2_with fail
    go_ret
    exact ⟨rfl, HB2.out⟩
  have HK1 := Lib.hid K1
  have HR1 := Lib.hid R1
  have hn1 : n1 ≤ 1048576 := by omega
  have HF1 := Lib.hid F1
  have HK2 := Lib.hid K2
  have HR2 := Lib.hid R2
  have hn2 : n2 ≤ 1048576 := by omega
  have HF2 := Lib.hid F2
  have HK0 := Lib.hid K0
  have hn0 : x0.parts ≤ 1048576 := by omega
  have hpw : (runH x0 l1 l2 a3 []).parts ≤ 6 := runH_few x0 l1 l2 a3 []
  clear K1 F1 R1 K2 F2 R2 K0 F0
  have HB := Lib.hid (alloc_same w (.cells #[.slice a90 n90 c90, .slice b90 m90 d90] 52))
  have HXp0 := Lib.hid (heap_alloc_new w (.cells #[.slice a90 n90 c90, .slice b90 m90 d90] 52 (0, 0)))
  change Hid ((World.alloc w (.cells #[.slice a90 n90 c90, .slice b90 m90 d90] 52)).heap[w.heap.size]? = _) at HXp0
  have hs1 : w.heap.size + 1 ≤ (World.alloc w (.cells #[.slice a90 n90 c90, .slice b90 m90 d90] 52)).heap.size := by simp
  go_enter Tryz.func5, Tryz.ntmps5
  obtain ⟨eap0, ebp0, -⟩ := two_cells HXp0.out
  go_wp2_with fail
  clear eap0 ebp0
  generalize hgen : (World.alloc w (.cells #[.slice a90 n90 c90, .slice b90 m90 d90] 52)) = w_1 at *
  clear hgen
  refine (szHello_yes (1048576) (HK0.out.same HB.out) (by omega) (by omega)).mono ?_
  rintro e w_2 ⟨rfl, hb⟩
  have hs2 : w_1.heap.size ≤ w_2.heap.size := hb.size
  replace HXp0 := Lib.hid (((hb).block _ (by omega)).trans HXp0.out)
  replace HB := Lib.hid (HB.out.trans (hb.mono HB.out.size))
  clear hb
  obtain ⟨eap0, ebp0, -⟩ := two_cells HXp0.out
  go_wp2_with fail
  clear eap0 ebp0
  refine (toHello_any (HK0.out.same HB.out) (by omega)).mono ?_
  rintro e w_3 ⟨v21, rfl, ho, hb⟩
  have HN21 := Lib.hid ho
  have hs3 : w_2.heap.size ≤ w_3.heap.size := hb.size
  replace HXp0 := Lib.hid (((hb).block _ (by omega)).trans HXp0.out)
  replace HB := Lib.hid (HB.out.trans (hb.mono HB.out.size))
  clear ho
  clear hb
  have HO21 := HN21
  clear HN21
  obtain ⟨a21, n21, c21, b21, m21, d21, rfl⟩ := HO21.out.shape
  obtain ⟨eap0, ebp0, -⟩ := two_cells HXp0.out
  go_wp2_with fail
  clear eap0 ebp0
  refine (toIntS_any a1 n1 c1 l1 _ (HK1.out.same HB.out) (by omega)).mono ?_
  rintro e w_4 ⟨b22, m22, d22, rfl, ho, hb⟩
  have hm22 : m22 ≤ 1048576 := by have hl := ho.len; have := HK1.out.len; omega
  have HN22 := Lib.hid ho
  have HS22 := Lib.hid ho.span
  have hs4 : w_3.heap.size ≤ w_4.heap.size := hb.size
  replace HO21 := Lib.hid (HO21.out.same hb)
  replace HXp0 := Lib.hid (((hb).block _ (by omega)).trans HXp0.out)
  replace HB := Lib.hid (HB.out.trans (hb.mono HB.out.size))
  clear ho
  clear hb
  have HO22 := HN22
  clear HN22
  obtain ⟨eap0, ebp0, -⟩ := two_cells HXp0.out
  go_wp2_with fail
  clear eap0 ebp0
  refine (toIntS_any a2 n2 c2 l2 _ (HK2.out.same HB.out) (by omega)).mono ?_
  rintro e w_5 ⟨b23, m23, d23, rfl, ho, hb⟩
  have hm23 : m23 ≤ 1048576 := by have hl := ho.len; have := HK2.out.len; omega
  have HN23 := Lib.hid ho
  have HS23 := Lib.hid ho.span
  have hs5 : w_4.heap.size ≤ w_5.heap.size := hb.size
  replace HO21 := Lib.hid (HO21.out.same hb)
  replace HO22 := Lib.hid (HO22.out.same hb)
  replace HXp0 := Lib.hid (((hb).block _ (by omega)).trans HXp0.out)
  replace HB := Lib.hid (HB.out.trans (hb.mono HB.out.size))
  clear ho
  clear hb
  have HO23 := HN23
  clear HN23
  obtain ⟨eap0, ebp0, -⟩ := two_cells HXp0.out
  go_wp2_with fail
  clear eap0 ebp0
  refine (specHonestDeal_any a3 HO21.out.hel HO22.out.nums HO23.out.nums HF2.out (by omega) (by omega)).mono ?_
  rintro e w_6 ⟨v24, rfl, ho, hb⟩
  have HN24 := Lib.hid ho
  have hs6 : w_5.heap.size ≤ w_6.heap.size := hb.size
  replace HO21 := Lib.hid (HO21.out.same hb)
  replace HO22 := Lib.hid (HO22.out.same hb)
  replace HO23 := Lib.hid (HO23.out.same hb)
  replace HXp0 := Lib.hid (((hb).block _ (by omega)).trans HXp0.out)
  replace HB := Lib.hid (HB.out.trans (hb.mono HB.out.size))
  clear ho
  clear hb
  have HO24 := HN24
  clear HN24
  obtain ⟨a24, n24, c24, rfl⟩ := HO24.out.shape
  clear HO21 HO22 HO23
  have HAL := Lib.hid (alloc_same w_6 (.cells #[.bool (runH x0 l1 l2 a3 []).ok, .int .i64 (runH x0 l1 l2 a3 []).ver, .slice a24 n24 c24] 32))
  have HX24 := Lib.hid (heap_alloc_new w_6 (.cells #[.bool (runH x0 l1 l2 a3 []).ok, .int .i64 (runH x0 l1 l2 a3 []).ver, .slice a24 n24 c24] 32 (0, 0)))
  change Hid ((World.alloc w_6 (.cells #[.bool (runH x0 l1 l2 a3 []).ok, .int .i64 (runH x0 l1 l2 a3 []).ver, .slice a24 n24 c24] 32)).heap[w_6.heap.size]? = _) at HX24
  replace HO24 := Lib.hid (HO24.out.same HAL.out)
  replace HXp0 := Lib.hid (((HAL.out).block _ (by omega)).trans HXp0.out)
  replace HB := Lib.hid (HB.out.trans (HAL.out.mono HB.out.size))
  have hs7 : w_6.heap.size < (World.alloc w_6 (.cells #[.bool (runH x0 l1 l2 a3 []).ok, .int .i64 (runH x0 l1 l2 a3 []).ver, .slice a24 n24 c24] 32)).heap.size := by simp
  obtain ⟨eap0, ebp0, -⟩ := two_cells HXp0.out
  obtain ⟨ea24, eb24, ec24, -⟩ := deal_cells HX24.out
  clear HAL
  go_wp2_with fail
  clear eap0 ebp0 ea24 eb24 ec24
  generalize hgen : World.alloc w_6 (.cells #[.bool (runH x0 l1 l2 a3 []).ok, .int .i64 (runH x0 l1 l2 a3 []).ver, .slice a24 n24 c24] 32) = w_7 at *
  clear hgen
  refine (toHello_any (HK0.out.same HB.out) (by omega)).mono ?_
  rintro e w_8 ⟨v25, rfl, ho, hb⟩
  have HN25 := Lib.hid ho
  have hs8 : w_7.heap.size ≤ w_8.heap.size := hb.size
  replace HO24 := Lib.hid (HO24.out.same hb)
  replace HXp0 := Lib.hid (((hb).block _ (by omega)).trans HXp0.out)
  replace HX24 := Lib.hid (((hb).block _ (by omega)).trans HX24.out)
  replace HB := Lib.hid (HB.out.trans (hb.mono HB.out.size))
  clear ho
  clear hb
  have HO25 := HN25
  clear HN25
  obtain ⟨a25, n25, c25, b25, m25, d25, rfl⟩ := HO25.out.shape
  have HAL := Lib.hid (alloc_same w_8 (.cells #[.slice a25 n25 c25, .slice b25 m25 d25] 27))
  have HX25 := Lib.hid (heap_alloc_new w_8 (.cells #[.slice a25 n25 c25, .slice b25 m25 d25] 27 (0, 0)))
  change Hid ((World.alloc w_8 (.cells #[.slice a25 n25 c25, .slice b25 m25 d25] 27)).heap[w_8.heap.size]? = _) at HX25
  replace HO24 := Lib.hid (HO24.out.same HAL.out)
  replace HO25 := Lib.hid (HO25.out.same HAL.out)
  replace HXp0 := Lib.hid (((HAL.out).block _ (by omega)).trans HXp0.out)
  replace HX24 := Lib.hid (((HAL.out).block _ (by omega)).trans HX24.out)
  replace HB := Lib.hid (HB.out.trans (HAL.out.mono HB.out.size))
  have hs9 : w_8.heap.size < (World.alloc w_8 (.cells #[.slice a25 n25 c25, .slice b25 m25 d25] 27)).heap.size := by simp
  obtain ⟨eap0, ebp0, -⟩ := two_cells HXp0.out
  obtain ⟨ea24, eb24, ec24, -⟩ := deal_cells HX24.out
  obtain ⟨ea25, eb25, -⟩ := two_cells HX25.out
  clear HAL
  go_wp2_with fail
  clear eap0 ebp0 ea24 eb24 ec24 ea25 eb25
  generalize hgen : World.alloc w_8 (.cells #[.slice a25 n25 c25, .slice b25 m25 d25] 27) = w_9 at *
  clear hgen
  refine (toIntS_any a1 n1 c1 l1 _ (HK1.out.same HB.out) (by omega)).mono ?_
  rintro e w_10 ⟨b26, m26, d26, rfl, ho, hb⟩
  have hm26 : m26 ≤ 1048576 := by have hl := ho.len; have := HK1.out.len; omega
  have HN26 := Lib.hid ho
  have HS26 := Lib.hid ho.span
  have hs10 : w_9.heap.size ≤ w_10.heap.size := hb.size
  replace HO24 := Lib.hid (HO24.out.same hb)
  replace HO25 := Lib.hid (HO25.out.same hb)
  replace HXp0 := Lib.hid (((hb).block _ (by omega)).trans HXp0.out)
  replace HX24 := Lib.hid (((hb).block _ (by omega)).trans HX24.out)
  replace HX25 := Lib.hid (((hb).block _ (by omega)).trans HX25.out)
  replace HB := Lib.hid (HB.out.trans (hb.mono HB.out.size))
  clear ho
  clear hb
  have HO26 := HN26
  clear HN26
  obtain ⟨eap0, ebp0, -⟩ := two_cells HXp0.out
  obtain ⟨ea24, eb24, ec24, -⟩ := deal_cells HX24.out
  obtain ⟨ea25, eb25, -⟩ := two_cells HX25.out
  go_wp2_with fail
  clear eap0 ebp0 ea24 eb24 ec24 ea25 eb25
  refine (toIntS_any a2 n2 c2 l2 _ (HK2.out.same HB.out) (by omega)).mono ?_
  rintro e w_11 ⟨b27, m27, d27, rfl, ho, hb⟩
  have hm27 : m27 ≤ 1048576 := by have hl := ho.len; have := HK2.out.len; omega
  have HN27 := Lib.hid ho
  have HS27 := Lib.hid ho.span
  have hs11 : w_10.heap.size ≤ w_11.heap.size := hb.size
  replace HO24 := Lib.hid (HO24.out.same hb)
  replace HO25 := Lib.hid (HO25.out.same hb)
  replace HO26 := Lib.hid (HO26.out.same hb)
  replace HXp0 := Lib.hid (((hb).block _ (by omega)).trans HXp0.out)
  replace HX24 := Lib.hid (((hb).block _ (by omega)).trans HX24.out)
  replace HX25 := Lib.hid (((hb).block _ (by omega)).trans HX25.out)
  replace HB := Lib.hid (HB.out.trans (hb.mono HB.out.size))
  clear ho
  clear hb
  have HO27 := HN27
  clear HN27
  obtain ⟨eap0, ebp0, -⟩ := two_cells HXp0.out
  obtain ⟨ea24, eb24, ec24, -⟩ := deal_cells HX24.out
  obtain ⟨ea25, eb25, -⟩ := two_cells HX25.out
  go_wp2_with fail
  clear eap0 ebp0 ea24 eb24 ec24 ea25 eb25
  refine (honestDeal_any a3 HO25.out.hel HO26.out.nums HO27.out.nums HF2.out (by omega) (by omega)).mono ?_
  rintro e w_12 ⟨v28, rfl, ho, hb⟩
  have HN28 := Lib.hid ho
  have hs12 : w_11.heap.size ≤ w_12.heap.size := hb.size
  replace HO24 := Lib.hid (HO24.out.same hb)
  replace HO25 := Lib.hid (HO25.out.same hb)
  replace HO26 := Lib.hid (HO26.out.same hb)
  replace HO27 := Lib.hid (HO27.out.same hb)
  replace HXp0 := Lib.hid (((hb).block _ (by omega)).trans HXp0.out)
  replace HX24 := Lib.hid (((hb).block _ (by omega)).trans HX24.out)
  replace HX25 := Lib.hid (((hb).block _ (by omega)).trans HX25.out)
  replace HB := Lib.hid (HB.out.trans (hb.mono HB.out.size))
  clear ho
  clear hb
  have HO28 := HN28
  clear HN28
  obtain ⟨a28, n28, c28, rfl⟩ := HO28.out.shape
  have HAL := Lib.hid (alloc_same w_12 (.cells #[.bool (runH x0 l1 l2 a3 []).ok, .int .i64 (runH x0 l1 l2 a3 []).ver, .slice a28 n28 c28] 32))
  have HX28 := Lib.hid (heap_alloc_new w_12 (.cells #[.bool (runH x0 l1 l2 a3 []).ok, .int .i64 (runH x0 l1 l2 a3 []).ver, .slice a28 n28 c28] 32 (0, 0)))
  change Hid ((World.alloc w_12 (.cells #[.bool (runH x0 l1 l2 a3 []).ok, .int .i64 (runH x0 l1 l2 a3 []).ver, .slice a28 n28 c28] 32)).heap[w_12.heap.size]? = _) at HX28
  replace HO24 := Lib.hid (HO24.out.same HAL.out)
  replace HO25 := Lib.hid (HO25.out.same HAL.out)
  replace HO26 := Lib.hid (HO26.out.same HAL.out)
  replace HO27 := Lib.hid (HO27.out.same HAL.out)
  replace HO28 := Lib.hid (HO28.out.same HAL.out)
  replace HXp0 := Lib.hid (((HAL.out).block _ (by omega)).trans HXp0.out)
  replace HX24 := Lib.hid (((HAL.out).block _ (by omega)).trans HX24.out)
  replace HX25 := Lib.hid (((HAL.out).block _ (by omega)).trans HX25.out)
  replace HB := Lib.hid (HB.out.trans (HAL.out.mono HB.out.size))
  have hs13 : w_12.heap.size < (World.alloc w_12 (.cells #[.bool (runH x0 l1 l2 a3 []).ok, .int .i64 (runH x0 l1 l2 a3 []).ver, .slice a28 n28 c28] 32)).heap.size := by simp
  obtain ⟨eap0, ebp0, -⟩ := two_cells HXp0.out
  obtain ⟨ea24, eb24, ec24, -⟩ := deal_cells HX24.out
  obtain ⟨ea25, eb25, -⟩ := two_cells HX25.out
  obtain ⟨ea28, eb28, ec28, -⟩ := deal_cells HX28.out
  clear HAL
  go_wp2_with fail
  clear eap0 ebp0 ea24 eb24 ec24 ea25 eb25 ea28 eb28 ec28
  generalize hgen : World.alloc w_12 (.cells #[.bool (runH x0 l1 l2 a3 []).ok, .int .i64 (runH x0 l1 l2 a3 []).ver, .slice a28 n28 c28] 32) = w_13 at *
  clear hgen
  refine (eqDeal_yes HO28.out.dl HO24.out.dl).mono ?_
  rintro e w_14 ⟨rfl, hb⟩
  have hs14 : w_13.heap.size ≤ w_14.heap.size := hb.size
  replace HO24 := Lib.hid (HO24.out.same hb)
  replace HO25 := Lib.hid (HO25.out.same hb)
  replace HO26 := Lib.hid (HO26.out.same hb)
  replace HO27 := Lib.hid (HO27.out.same hb)
  replace HO28 := Lib.hid (HO28.out.same hb)
  replace HXp0 := Lib.hid (((hb).block _ (by omega)).trans HXp0.out)
  replace HX24 := Lib.hid (((hb).block _ (by omega)).trans HX24.out)
  replace HX25 := Lib.hid (((hb).block _ (by omega)).trans HX25.out)
  replace HX28 := Lib.hid (((hb).block _ (by omega)).trans HX28.out)
  replace HB := Lib.hid (HB.out.trans (hb.mono HB.out.size))
  clear hb
  obtain ⟨eap0, ebp0, -⟩ := two_cells HXp0.out
  obtain ⟨ea24, eb24, ec24, -⟩ := deal_cells HX24.out
  obtain ⟨ea25, eb25, -⟩ := two_cells HX25.out
  obtain ⟨ea28, eb28, ec28, -⟩ := deal_cells HX28.out
  go_wp2_with fail
  clear eap0 ebp0 ea24 eb24 ec24 ea25 eb25 ea28 eb28 ec28
  have CX25 := Lib.hid (two_cells HX25.out)
  have CXp0 := Lib.hid (two_cells HXp0.out)
  have HBd : Hid (Below w_14.heap.size w_14 w_14.drew) := Lib.hid (Below.refl _ _).drew
  refine wp_region_held_drew (S := fun w9 => w9.cell? ⟨w_8.heap.size, 0, none⟩ = some (.slice a25 n25 c25) ∧ w9.cell? ⟨w_8.heap.size, 1, none⟩ = some (.slice b25 m25 d25) ∧ w9.cell? ⟨w.heap.size, 0, none⟩ = some (.slice a90 n90 c90) ∧ w9.cell? ⟨w.heap.size, 1, none⟩ = some (.slice b90 m90 d90)) (by kernel_rfl) ⟨cell_stay CX25.out.1 HBd.out, cell_stay CX25.out.2.1 HBd.out, cell_stay CXp0.out.1 HBd.out, cell_stay CXp0.out.2.1 HBd.out⟩ (fun hHeld => ?_)
  refine wpAnyH_take (i := 0) (v := ?v2004) (by simp only [List.getElem?_toArray, List.getElem?_cons_succ, List.getElem?_cons_zero]; rfl) (by kernel_rfl) (by kernel_rfl) (by kernel_rfl) (by exact fun _ _ _ h => h) (Or.inl ⟨by rfl, fun w9 hS9 => ?hy2004⟩) hHeld ?rest2004
  case hy2004 =>
    dsimp only at hS9
    obtain ⟨z0, z1, z2, z3⟩ := hS9
    go_simp
    try with_reducible rfl
  try simp only [Act.put, List.setIfInBounds_toArray, List.set_cons_zero, List.set_cons_succ]
  refine wpAnyH_take (i := 1) (v := ?v2005) (by simp only [List.getElem?_toArray, List.getElem?_cons_succ, List.getElem?_cons_zero]; rfl) (by kernel_rfl) (by kernel_rfl) (by kernel_rfl) (by exact fun _ _ _ h => h) (Or.inl ⟨by rfl, fun w9 hS9 => ?hy2005⟩) hHeld ?rest2005
  case hy2005 =>
    dsimp only at hS9
    obtain ⟨z0, z1, z2, z3⟩ := hS9
    go_simp
    try with_reducible rfl
  try simp only [Act.put, List.setIfInBounds_toArray, List.set_cons_zero, List.set_cons_succ]
  refine wpAnyH_ready (rs := [2]) (by kernel_rfl) (by simp) (AllReadyH.cons (by simp only [List.getElem?_toArray, List.getElem?_cons_succ, List.getElem?_cons_zero]; rfl) (fun K hK => ?_) AllReadyH.nil)
  go_simp
  refine (toHello_any (HK0.out.same (HB.out.trans (HBd.out.mono HB.out.size))) (by omega)).mono ?_
  rintro e w1 ⟨b9, rfl, ho1, hb1⟩
  have HB1 : Hid (Below w_14.heap.size w_14 w1) := Lib.hid (HBd.out.trans (hb1.mono HBd.out.size))
  have HO9 := Lib.hid ho1.hel
  clear ho1
  clear hb1
  go_wp2_with fail
  refine hK.out _ _ ⟨cell_stay CX25.out.1 HB1.out, cell_stay CX25.out.2.1 HB1.out, cell_stay CXp0.out.1 HB1.out, cell_stay CXp0.out.2.1 HB1.out⟩ (fun hHeld => ?_)
  clear hK K
  try simp only [Act.put, List.setIfInBounds_toArray, List.set_cons_zero, List.set_cons_succ]
  refine wpAnyH_ready (rs := [3]) (by kernel_rfl) (by simp) (AllReadyH.cons (by simp only [List.getElem?_toArray, List.getElem?_cons_succ, List.getElem?_cons_zero]; rfl) (fun K hK => ?_) AllReadyH.nil)
  go_simp
  refine (eqHello_yes (HO25.out.hel.same HB1.out) HO9.out).mono ?_
  rintro e w2 ⟨rfl, hb2⟩
  have HB2 : Hid (Below w_14.heap.size w_14 w2) := Lib.hid (HB1.out.trans (hb2.mono HB1.out.size))
  clear hb2
  go_wp2_with fail
  refine hK.out _ _ ⟨cell_stay CX25.out.1 HB2.out, cell_stay CX25.out.2.1 HB2.out, cell_stay CXp0.out.1 HB2.out, cell_stay CXp0.out.2.1 HB2.out⟩ (fun hHeld => ?_)
  clear hK K
  try simp only [Act.put, List.setIfInBounds_toArray, List.set_cons_zero, List.set_cons_succ]
  refine wpAnyH_take (i := 4) (v := ?v2006) (by simp only [List.getElem?_toArray, List.getElem?_cons_succ, List.getElem?_cons_zero]; rfl) (by kernel_rfl) (by kernel_rfl) (by kernel_rfl) (by exact fun _ _ _ h => h) (Or.inl ⟨by rfl, fun w9 hS9 => ?hy2006⟩) hHeld ?rest2006
  case hy2006 =>
    dsimp only at hS9
    obtain ⟨z0, z1, z2, z3⟩ := hS9
    go_simp
    try with_reducible rfl
  try simp only [Act.put, List.setIfInBounds_toArray, List.set_cons_zero, List.set_cons_succ]
  refine wpAnyH_done (by kernel_rfl) ?_ _
  obtain ⟨w_15, hwv⟩ : ∃ u, u = w2 := ⟨w2, rfl⟩
  subst hwv
  have hs15 : w_14.heap.size ≤ w_15.heap.size := HB2.out.size
  replace HO24 := Lib.hid (HO24.out.same HB2.out)
  replace HO25 := Lib.hid (HO25.out.same HB2.out)
  replace HO26 := Lib.hid (HO26.out.same HB2.out)
  replace HO27 := Lib.hid (HO27.out.same HB2.out)
  replace HO28 := Lib.hid (HO28.out.same HB2.out)
  replace HXp0 := Lib.hid (((HB2.out).block _ (by omega)).trans HXp0.out)
  replace HX24 := Lib.hid (((HB2.out).block _ (by omega)).trans HX24.out)
  replace HX25 := Lib.hid (((HB2.out).block _ (by omega)).trans HX25.out)
  replace HX28 := Lib.hid (((HB2.out).block _ (by omega)).trans HX28.out)
  replace HB := Lib.hid (HB.out.trans (HB2.out.mono HB.out.size))
  clear CX25 CXp0
  obtain ⟨eap0, ebp0, -⟩ := two_cells HXp0.out
  obtain ⟨ea24, eb24, ec24, -⟩ := deal_cells HX24.out
  obtain ⟨ea25, eb25, -⟩ := two_cells HX25.out
  obtain ⟨ea28, eb28, ec28, -⟩ := deal_cells HX28.out
  go_wp2_with fail
  clear eap0 ebp0 ea24 eb24 ec24 ea25 eb25 ea28 eb28 ec28
  refine (toIntS_any a1 n1 c1 l1 _ (HK1.out.same HB.out) (by omega)).mono ?_
  rintro e w_16 ⟨b29, m29, d29, rfl, ho, hb⟩
  have hm29 : m29 ≤ 1048576 := by have hl := ho.len; have := HK1.out.len; omega
  have HN29 := Lib.hid ho
  have HS29 := Lib.hid ho.span
  have hs16 : w_15.heap.size ≤ w_16.heap.size := hb.size
  replace HO24 := Lib.hid (HO24.out.same hb)
  replace HO25 := Lib.hid (HO25.out.same hb)
  replace HO26 := Lib.hid (HO26.out.same hb)
  replace HO27 := Lib.hid (HO27.out.same hb)
  replace HO28 := Lib.hid (HO28.out.same hb)
  replace HXp0 := Lib.hid (((hb).block _ (by omega)).trans HXp0.out)
  replace HX24 := Lib.hid (((hb).block _ (by omega)).trans HX24.out)
  replace HX25 := Lib.hid (((hb).block _ (by omega)).trans HX25.out)
  replace HX28 := Lib.hid (((hb).block _ (by omega)).trans HX28.out)
  replace HB := Lib.hid (HB.out.trans (hb.mono HB.out.size))
  clear ho
  clear hb
  have HO29 := HN29
  clear HN29
  obtain ⟨eap0, ebp0, -⟩ := two_cells HXp0.out
  obtain ⟨ea24, eb24, ec24, -⟩ := deal_cells HX24.out
  obtain ⟨ea25, eb25, -⟩ := two_cells HX25.out
  obtain ⟨ea28, eb28, ec28, -⟩ := deal_cells HX28.out
  go_wp2_with fail
  clear eap0 ebp0 ea24 eb24 ec24 ea25 eb25 ea28 eb28 ec28
  refine (eqIntS_yes b26 b29 m26 m29 d26 d29 _ _ HO26.out.nums HO29.out.nums).mono ?_
  rintro e w_17 ⟨rfl, hb⟩
  have hs17 : w_16.heap.size ≤ w_17.heap.size := hb.size
  replace HO24 := Lib.hid (HO24.out.same hb)
  replace HO25 := Lib.hid (HO25.out.same hb)
  replace HO26 := Lib.hid (HO26.out.same hb)
  replace HO27 := Lib.hid (HO27.out.same hb)
  replace HO28 := Lib.hid (HO28.out.same hb)
  replace HO29 := Lib.hid (HO29.out.same hb)
  replace HXp0 := Lib.hid (((hb).block _ (by omega)).trans HXp0.out)
  replace HX24 := Lib.hid (((hb).block _ (by omega)).trans HX24.out)
  replace HX25 := Lib.hid (((hb).block _ (by omega)).trans HX25.out)
  replace HX28 := Lib.hid (((hb).block _ (by omega)).trans HX28.out)
  replace HB := Lib.hid (HB.out.trans (hb.mono HB.out.size))
  clear hb
  clear HO29
  obtain ⟨eap0, ebp0, -⟩ := two_cells HXp0.out
  obtain ⟨ea24, eb24, ec24, -⟩ := deal_cells HX24.out
  obtain ⟨ea25, eb25, -⟩ := two_cells HX25.out
  obtain ⟨ea28, eb28, ec28, -⟩ := deal_cells HX28.out
  go_wp2_with fail
  clear eap0 ebp0 ea24 eb24 ec24 ea25 eb25 ea28 eb28 ec28
  refine (toIntS_any a2 n2 c2 l2 _ (HK2.out.same HB.out) (by omega)).mono ?_
  rintro e w_18 ⟨b30, m30, d30, rfl, ho, hb⟩
  have hm30 : m30 ≤ 1048576 := by have hl := ho.len; have := HK2.out.len; omega
  have HN30 := Lib.hid ho
  have HS30 := Lib.hid ho.span
  have hs18 : w_17.heap.size ≤ w_18.heap.size := hb.size
  replace HO24 := Lib.hid (HO24.out.same hb)
  replace HO25 := Lib.hid (HO25.out.same hb)
  replace HO26 := Lib.hid (HO26.out.same hb)
  replace HO27 := Lib.hid (HO27.out.same hb)
  replace HO28 := Lib.hid (HO28.out.same hb)
  replace HXp0 := Lib.hid (((hb).block _ (by omega)).trans HXp0.out)
  replace HX24 := Lib.hid (((hb).block _ (by omega)).trans HX24.out)
  replace HX25 := Lib.hid (((hb).block _ (by omega)).trans HX25.out)
  replace HX28 := Lib.hid (((hb).block _ (by omega)).trans HX28.out)
  replace HB := Lib.hid (HB.out.trans (hb.mono HB.out.size))
  clear ho
  clear hb
  have HO30 := HN30
  clear HN30
  obtain ⟨eap0, ebp0, -⟩ := two_cells HXp0.out
  obtain ⟨ea24, eb24, ec24, -⟩ := deal_cells HX24.out
  obtain ⟨ea25, eb25, -⟩ := two_cells HX25.out
  obtain ⟨ea28, eb28, ec28, -⟩ := deal_cells HX28.out
  go_wp2_with fail
  clear eap0 ebp0 ea24 eb24 ec24 ea25 eb25 ea28 eb28 ec28
  refine (eqIntS_yes b27 b30 m27 m30 d27 d30 _ _ HO27.out.nums HO30.out.nums).mono ?_
  rintro e w_19 ⟨rfl, hb⟩
  have hs19 : w_18.heap.size ≤ w_19.heap.size := hb.size
  replace HO24 := Lib.hid (HO24.out.same hb)
  replace HO25 := Lib.hid (HO25.out.same hb)
  replace HO26 := Lib.hid (HO26.out.same hb)
  replace HO27 := Lib.hid (HO27.out.same hb)
  replace HO28 := Lib.hid (HO28.out.same hb)
  replace HO30 := Lib.hid (HO30.out.same hb)
  replace HXp0 := Lib.hid (((hb).block _ (by omega)).trans HXp0.out)
  replace HX24 := Lib.hid (((hb).block _ (by omega)).trans HX24.out)
  replace HX25 := Lib.hid (((hb).block _ (by omega)).trans HX25.out)
  replace HX28 := Lib.hid (((hb).block _ (by omega)).trans HX28.out)
  replace HB := Lib.hid (HB.out.trans (hb.mono HB.out.size))
  clear hb
  clear HO30
  obtain ⟨eap0, ebp0, -⟩ := two_cells HXp0.out
  obtain ⟨ea24, eb24, ec24, -⟩ := deal_cells HX24.out
  obtain ⟨ea25, eb25, -⟩ := two_cells HX25.out
  obtain ⟨ea28, eb28, ec28, -⟩ := deal_cells HX28.out
  go_wp2_with fail
  clear eap0 ebp0 ea24 eb24 ec24 ea25 eb25 ea28 eb28 ec28
  refine (markHello_any (k := 1) HO25.out (by omega) (by omega)).mono ?_
  rintro e w_20 ⟨rfl, ho, hg⟩
  have hs20 : w_19.heap.size ≤ w_20.heap.size := hg.size
  replace HO24 := Lib.hid (HO24.out.aside hg (by omega))
  replace HO26 := Lib.hid (HO26.out.aside hg HS26.out (by omega))
  replace HO27 := Lib.hid (HO27.out.aside hg HS27.out (by omega))
  replace HO28 := Lib.hid (HO28.out.aside hg (by omega))
  replace HXp0 := Lib.hid ((hg.block _ (by omega) (by omega)).trans HXp0.out)
  replace HX24 := Lib.hid ((hg.block _ (by omega) (by omega)).trans HX24.out)
  replace HX25 := Lib.hid ((hg.block _ (by omega) (by omega)).trans HX25.out)
  replace HX28 := Lib.hid ((hg.block _ (by omega) (by omega)).trans HX28.out)
  replace HO25 := Lib.hid ho
  replace HB := Lib.hid (hg.to HB.out (by omega) HB.out.size)
  clear ho hg
  obtain ⟨eap0, ebp0, -⟩ := two_cells HXp0.out
  obtain ⟨ea24, eb24, ec24, -⟩ := deal_cells HX24.out
  obtain ⟨ea25, eb25, -⟩ := two_cells HX25.out
  obtain ⟨ea28, eb28, ec28, -⟩ := deal_cells HX28.out
  go_wp2_with fail
  clear eap0 ebp0 ea24 eb24 ec24 ea25 eb25 ea28 eb28 ec28
  refine (markIntS_any _ b26 m26 d26 (1 + x0.parts) l1 _ HO26.out (by omega) (by omega)).mono ?_
  rintro e w_21 ⟨rfl, ho, hg0⟩
  have hg : Inside w_9.heap.size w_10.heap.size w_20 w_21 := Inside.row hg0 fun r e => by obtain ⟨ad, e1, rfl⟩ := block_of e; exact HS26.out ad e1
  have hs21 : w_20.heap.size ≤ w_21.heap.size := hg.size
  replace HO24 := Lib.hid (HO24.out.aside hg (by omega))
  replace HO25 := Lib.hid (HO25.out.aside hg (by omega))
  replace HO27 := Lib.hid (HO27.out.aside hg HS27.out (by omega))
  replace HO28 := Lib.hid (HO28.out.aside hg (by omega))
  replace HXp0 := Lib.hid ((hg.block _ (by omega) (by omega)).trans HXp0.out)
  replace HX24 := Lib.hid ((hg.block _ (by omega) (by omega)).trans HX24.out)
  replace HX25 := Lib.hid ((hg.block _ (by omega) (by omega)).trans HX25.out)
  replace HX28 := Lib.hid ((hg.block _ (by omega) (by omega)).trans HX28.out)
  replace HO26 := Lib.hid ho
  replace HB := Lib.hid (hg.to HB.out (by omega) HB.out.size)
  clear ho hg hg0
  obtain ⟨eap0, ebp0, -⟩ := two_cells HXp0.out
  obtain ⟨ea24, eb24, ec24, -⟩ := deal_cells HX24.out
  obtain ⟨ea25, eb25, -⟩ := two_cells HX25.out
  obtain ⟨ea28, eb28, ec28, -⟩ := deal_cells HX28.out
  go_wp2_with fail
  clear eap0 ebp0 ea24 eb24 ec24 ea25 eb25 ea28 eb28 ec28
  refine (markIntS_any _ b27 m27 d27 (1 + x0.parts + m26) l2 _ HO27.out (by omega) (by omega)).mono ?_
  rintro e w_22 ⟨rfl, ho, hg0⟩
  have hg : Inside w_10.heap.size w_11.heap.size w_21 w_22 := Inside.row hg0 fun r e => by obtain ⟨ad, e1, rfl⟩ := block_of e; exact HS27.out ad e1
  have hs22 : w_21.heap.size ≤ w_22.heap.size := hg.size
  replace HO24 := Lib.hid (HO24.out.aside hg (by omega))
  replace HO25 := Lib.hid (HO25.out.aside hg (by omega))
  replace HO26 := Lib.hid (HO26.out.aside hg HS26.out (by omega))
  replace HO28 := Lib.hid (HO28.out.aside hg (by omega))
  replace HXp0 := Lib.hid ((hg.block _ (by omega) (by omega)).trans HXp0.out)
  replace HX24 := Lib.hid ((hg.block _ (by omega) (by omega)).trans HX24.out)
  replace HX25 := Lib.hid ((hg.block _ (by omega) (by omega)).trans HX25.out)
  replace HX28 := Lib.hid ((hg.block _ (by omega) (by omega)).trans HX28.out)
  replace HO27 := Lib.hid ho
  replace HB := Lib.hid (hg.to HB.out (by omega) HB.out.size)
  clear ho hg hg0
  obtain ⟨eap0, ebp0, -⟩ := two_cells HXp0.out
  obtain ⟨ea24, eb24, ec24, -⟩ := deal_cells HX24.out
  obtain ⟨ea25, eb25, -⟩ := two_cells HX25.out
  obtain ⟨ea28, eb28, ec28, -⟩ := deal_cells HX28.out
  go_wp2_with fail
  clear eap0 ebp0 ea24 eb24 ec24 ea25 eb25 ea28 eb28 ec28
  refine (eqDeal_yes HO28.out.dl HO24.out.dl).mono ?_
  rintro e w_23 ⟨rfl, hb⟩
  have hs23 : w_22.heap.size ≤ w_23.heap.size := hb.size
  replace HO24 := Lib.hid (HO24.out.same hb)
  replace HO25 := Lib.hid (HO25.out.same hb)
  replace HO26 := Lib.hid (HO26.out.same hb)
  replace HO27 := Lib.hid (HO27.out.same hb)
  replace HO28 := Lib.hid (HO28.out.same hb)
  replace HXp0 := Lib.hid (((hb).block _ (by omega)).trans HXp0.out)
  replace HX24 := Lib.hid (((hb).block _ (by omega)).trans HX24.out)
  replace HX25 := Lib.hid (((hb).block _ (by omega)).trans HX25.out)
  replace HX28 := Lib.hid (((hb).block _ (by omega)).trans HX28.out)
  replace HB := Lib.hid (HB.out.trans (hb.mono HB.out.size))
  clear hb
  obtain ⟨eap0, ebp0, -⟩ := two_cells HXp0.out
  obtain ⟨ea24, eb24, ec24, -⟩ := deal_cells HX24.out
  obtain ⟨ea25, eb25, -⟩ := two_cells HX25.out
  obtain ⟨ea28, eb28, ec28, -⟩ := deal_cells HX28.out
  go_wp2_with fail
  clear eap0 ebp0 ea24 eb24 ec24 ea25 eb25 ea28 eb28 ec28
  refine (markDeal_any (k := 1) HO28.out (by omega) (by omega)).mono ?_
  rintro e w_24 ⟨rfl, ho, hg⟩
  have hs24 : w_23.heap.size ≤ w_24.heap.size := hg.size
  replace HO24 := Lib.hid (HO24.out.aside hg (by omega))
  replace HO25 := Lib.hid (HO25.out.aside hg (by omega))
  replace HO26 := Lib.hid (HO26.out.aside hg HS26.out (by omega))
  replace HO27 := Lib.hid (HO27.out.aside hg HS27.out (by omega))
  replace HXp0 := Lib.hid ((hg.block _ (by omega) (by omega)).trans HXp0.out)
  replace HX24 := Lib.hid ((hg.block _ (by omega) (by omega)).trans HX24.out)
  replace HX25 := Lib.hid ((hg.block _ (by omega) (by omega)).trans HX25.out)
  replace HX28 := Lib.hid ((hg.block _ (by omega) (by omega)).trans HX28.out)
  replace HO28 := Lib.hid ho
  replace HB := Lib.hid (hg.to HB.out (by omega) HB.out.size)
  clear ho hg
  obtain ⟨eap0, ebp0, -⟩ := two_cells HXp0.out
  obtain ⟨ea24, eb24, ec24, -⟩ := deal_cells HX24.out
  obtain ⟨ea25, eb25, -⟩ := two_cells HX25.out
  obtain ⟨ea28, eb28, ec28, -⟩ := deal_cells HX28.out
  go_wp2_with fail
  clear eap0 ebp0 ea24 eb24 ec24 ea25 eb25 ea28 eb28 ec28
  refine (heldDeal_any (k := 1) (x := (runH x0 l1 l2 a3 [])) HO28.out.dl (by omega) (by omega)).mono ?_
  rintro e w_25 ⟨rfl, hb⟩
  have hs25 : w_24.heap.size ≤ w_25.heap.size := hb.size
  replace HO24 := Lib.hid (HO24.out.same hb)
  replace HO25 := Lib.hid (HO25.out.same hb)
  replace HO26 := Lib.hid (HO26.out.same hb)
  replace HO27 := Lib.hid (HO27.out.same hb)
  replace HO28 := Lib.hid (HO28.out.same hb)
  replace HXp0 := Lib.hid (((hb).block _ (by omega)).trans HXp0.out)
  replace HX24 := Lib.hid (((hb).block _ (by omega)).trans HX24.out)
  replace HX25 := Lib.hid (((hb).block _ (by omega)).trans HX25.out)
  replace HX28 := Lib.hid (((hb).block _ (by omega)).trans HX28.out)
  replace HB := Lib.hid (HB.out.trans (hb.mono HB.out.size))
  clear hb
  obtain ⟨eap0, ebp0, -⟩ := two_cells HXp0.out
  obtain ⟨ea24, eb24, ec24, -⟩ := deal_cells HX24.out
  obtain ⟨ea25, eb25, -⟩ := two_cells HX25.out
  obtain ⟨ea28, eb28, ec28, -⟩ := deal_cells HX28.out
  go_wp2_with fail
  clear eap0 ebp0 ea24 eb24 ec24 ea25 eb25 ea28 eb28 ec28
  refine (toHello_any (HK0.out.same HB.out) (by omega)).mono ?_
  rintro e w_26 ⟨v31, rfl, ho, hb⟩
  have HN31 := Lib.hid ho
  have hs26 : w_25.heap.size ≤ w_26.heap.size := hb.size
  replace HO24 := Lib.hid (HO24.out.same hb)
  replace HO25 := Lib.hid (HO25.out.same hb)
  replace HO26 := Lib.hid (HO26.out.same hb)
  replace HO27 := Lib.hid (HO27.out.same hb)
  replace HO28 := Lib.hid (HO28.out.same hb)
  replace HXp0 := Lib.hid (((hb).block _ (by omega)).trans HXp0.out)
  replace HX24 := Lib.hid (((hb).block _ (by omega)).trans HX24.out)
  replace HX25 := Lib.hid (((hb).block _ (by omega)).trans HX25.out)
  replace HX28 := Lib.hid (((hb).block _ (by omega)).trans HX28.out)
  replace HB := Lib.hid (HB.out.trans (hb.mono HB.out.size))
  clear ho
  clear hb
  have HO31 := HN31
  clear HN31
  obtain ⟨a31, n31, c31, b31, m31, d31, rfl⟩ := HO31.out.shape
  obtain ⟨eap0, ebp0, -⟩ := two_cells HXp0.out
  obtain ⟨ea24, eb24, ec24, -⟩ := deal_cells HX24.out
  obtain ⟨ea25, eb25, -⟩ := two_cells HX25.out
  obtain ⟨ea28, eb28, ec28, -⟩ := deal_cells HX28.out
  go_wp2_with fail
  clear eap0 ebp0 ea24 eb24 ec24 ea25 eb25 ea28 eb28 ec28
  refine (toIntS_any a1 n1 c1 l1 _ (HK1.out.same HB.out) (by omega)).mono ?_
  rintro e w_27 ⟨b32, m32, d32, rfl, ho, hb⟩
  have hm32 : m32 ≤ 1048576 := by have hl := ho.len; have := HK1.out.len; omega
  have HN32 := Lib.hid ho
  have HS32 := Lib.hid ho.span
  have hs27 : w_26.heap.size ≤ w_27.heap.size := hb.size
  replace HO24 := Lib.hid (HO24.out.same hb)
  replace HO25 := Lib.hid (HO25.out.same hb)
  replace HO26 := Lib.hid (HO26.out.same hb)
  replace HO27 := Lib.hid (HO27.out.same hb)
  replace HO28 := Lib.hid (HO28.out.same hb)
  replace HO31 := Lib.hid (HO31.out.same hb)
  replace HXp0 := Lib.hid (((hb).block _ (by omega)).trans HXp0.out)
  replace HX24 := Lib.hid (((hb).block _ (by omega)).trans HX24.out)
  replace HX25 := Lib.hid (((hb).block _ (by omega)).trans HX25.out)
  replace HX28 := Lib.hid (((hb).block _ (by omega)).trans HX28.out)
  replace HB := Lib.hid (HB.out.trans (hb.mono HB.out.size))
  clear ho
  clear hb
  have HO32 := HN32
  clear HN32
  obtain ⟨eap0, ebp0, -⟩ := two_cells HXp0.out
  obtain ⟨ea24, eb24, ec24, -⟩ := deal_cells HX24.out
  obtain ⟨ea25, eb25, -⟩ := two_cells HX25.out
  obtain ⟨ea28, eb28, ec28, -⟩ := deal_cells HX28.out
  go_wp2_with fail
  clear eap0 ebp0 ea24 eb24 ec24 ea25 eb25 ea28 eb28 ec28
  refine (toIntS_any a2 n2 c2 l2 _ (HK2.out.same HB.out) (by omega)).mono ?_
  rintro e w_28 ⟨b33, m33, d33, rfl, ho, hb⟩
  have hm33 : m33 ≤ 1048576 := by have hl := ho.len; have := HK2.out.len; omega
  have HN33 := Lib.hid ho
  have HS33 := Lib.hid ho.span
  have hs28 : w_27.heap.size ≤ w_28.heap.size := hb.size
  replace HO24 := Lib.hid (HO24.out.same hb)
  replace HO25 := Lib.hid (HO25.out.same hb)
  replace HO26 := Lib.hid (HO26.out.same hb)
  replace HO27 := Lib.hid (HO27.out.same hb)
  replace HO28 := Lib.hid (HO28.out.same hb)
  replace HO31 := Lib.hid (HO31.out.same hb)
  replace HO32 := Lib.hid (HO32.out.same hb)
  replace HXp0 := Lib.hid (((hb).block _ (by omega)).trans HXp0.out)
  replace HX24 := Lib.hid (((hb).block _ (by omega)).trans HX24.out)
  replace HX25 := Lib.hid (((hb).block _ (by omega)).trans HX25.out)
  replace HX28 := Lib.hid (((hb).block _ (by omega)).trans HX28.out)
  replace HB := Lib.hid (HB.out.trans (hb.mono HB.out.size))
  clear ho
  clear hb
  have HO33 := HN33
  clear HN33
  obtain ⟨eap0, ebp0, -⟩ := two_cells HXp0.out
  obtain ⟨ea24, eb24, ec24, -⟩ := deal_cells HX24.out
  obtain ⟨ea25, eb25, -⟩ := two_cells HX25.out
  obtain ⟨ea28, eb28, ec28, -⟩ := deal_cells HX28.out
  go_wp2_with fail
  clear eap0 ebp0 ea24 eb24 ec24 ea25 eb25 ea28 eb28 ec28
  refine (honestDeal_any a3 HO31.out.hel HO32.out.nums HO33.out.nums HF2.out (by omega) (by omega)).mono ?_
  rintro e w_29 ⟨v34, rfl, ho, hb⟩
  have HN34 := Lib.hid ho
  have hs29 : w_28.heap.size ≤ w_29.heap.size := hb.size
  replace HO24 := Lib.hid (HO24.out.same hb)
  replace HO25 := Lib.hid (HO25.out.same hb)
  replace HO26 := Lib.hid (HO26.out.same hb)
  replace HO27 := Lib.hid (HO27.out.same hb)
  replace HO28 := Lib.hid (HO28.out.same hb)
  replace HO31 := Lib.hid (HO31.out.same hb)
  replace HO32 := Lib.hid (HO32.out.same hb)
  replace HO33 := Lib.hid (HO33.out.same hb)
  replace HXp0 := Lib.hid (((hb).block _ (by omega)).trans HXp0.out)
  replace HX24 := Lib.hid (((hb).block _ (by omega)).trans HX24.out)
  replace HX25 := Lib.hid (((hb).block _ (by omega)).trans HX25.out)
  replace HX28 := Lib.hid (((hb).block _ (by omega)).trans HX28.out)
  replace HB := Lib.hid (HB.out.trans (hb.mono HB.out.size))
  clear ho
  clear hb
  have HO34 := HN34
  clear HN34
  obtain ⟨a34, n34, c34, rfl⟩ := HO34.out.shape
  clear HO31 HO32 HO33
  have HAL := Lib.hid (alloc_same w_29 (.cells #[.bool (runH x0 l1 l2 a3 []).ok, .int .i64 (runH x0 l1 l2 a3 []).ver, .slice a34 n34 c34] 32))
  have HX34 := Lib.hid (heap_alloc_new w_29 (.cells #[.bool (runH x0 l1 l2 a3 []).ok, .int .i64 (runH x0 l1 l2 a3 []).ver, .slice a34 n34 c34] 32 (0, 0)))
  change Hid ((World.alloc w_29 (.cells #[.bool (runH x0 l1 l2 a3 []).ok, .int .i64 (runH x0 l1 l2 a3 []).ver, .slice a34 n34 c34] 32)).heap[w_29.heap.size]? = _) at HX34
  replace HO24 := Lib.hid (HO24.out.same HAL.out)
  replace HO25 := Lib.hid (HO25.out.same HAL.out)
  replace HO26 := Lib.hid (HO26.out.same HAL.out)
  replace HO27 := Lib.hid (HO27.out.same HAL.out)
  replace HO28 := Lib.hid (HO28.out.same HAL.out)
  replace HO34 := Lib.hid (HO34.out.same HAL.out)
  replace HXp0 := Lib.hid (((HAL.out).block _ (by omega)).trans HXp0.out)
  replace HX24 := Lib.hid (((HAL.out).block _ (by omega)).trans HX24.out)
  replace HX25 := Lib.hid (((HAL.out).block _ (by omega)).trans HX25.out)
  replace HX28 := Lib.hid (((HAL.out).block _ (by omega)).trans HX28.out)
  replace HB := Lib.hid (HB.out.trans (HAL.out.mono HB.out.size))
  have hs30 : w_29.heap.size < (World.alloc w_29 (.cells #[.bool (runH x0 l1 l2 a3 []).ok, .int .i64 (runH x0 l1 l2 a3 []).ver, .slice a34 n34 c34] 32)).heap.size := by simp
  obtain ⟨eap0, ebp0, -⟩ := two_cells HXp0.out
  obtain ⟨ea24, eb24, ec24, -⟩ := deal_cells HX24.out
  obtain ⟨ea25, eb25, -⟩ := two_cells HX25.out
  obtain ⟨ea28, eb28, ec28, -⟩ := deal_cells HX28.out
  obtain ⟨ea34, eb34, ec34, -⟩ := deal_cells HX34.out
  clear HAL
  go_wp2_with fail
  clear eap0 ebp0 ea24 eb24 ec24 ea25 eb25 ea28 eb28 ec28 ea34 eb34 ec34
  generalize hgen : World.alloc w_29 (.cells #[.bool (runH x0 l1 l2 a3 []).ok, .int .i64 (runH x0 l1 l2 a3 []).ver, .slice a34 n34 c34] 32) = w_30 at *
  clear hgen
  refine (eqDeal_yes HO34.out.dl HO24.out.dl).mono ?_
  rintro e w_31 ⟨rfl, hb⟩
  have hs31 : w_30.heap.size ≤ w_31.heap.size := hb.size
  replace HO24 := Lib.hid (HO24.out.same hb)
  replace HO25 := Lib.hid (HO25.out.same hb)
  replace HO26 := Lib.hid (HO26.out.same hb)
  replace HO27 := Lib.hid (HO27.out.same hb)
  replace HO28 := Lib.hid (HO28.out.same hb)
  replace HO34 := Lib.hid (HO34.out.same hb)
  replace HXp0 := Lib.hid (((hb).block _ (by omega)).trans HXp0.out)
  replace HX24 := Lib.hid (((hb).block _ (by omega)).trans HX24.out)
  replace HX25 := Lib.hid (((hb).block _ (by omega)).trans HX25.out)
  replace HX28 := Lib.hid (((hb).block _ (by omega)).trans HX28.out)
  replace HX34 := Lib.hid (((hb).block _ (by omega)).trans HX34.out)
  replace HB := Lib.hid (HB.out.trans (hb.mono HB.out.size))
  clear hb
  obtain ⟨eap0, ebp0, -⟩ := two_cells HXp0.out
  obtain ⟨ea24, eb24, ec24, -⟩ := deal_cells HX24.out
  obtain ⟨ea25, eb25, -⟩ := two_cells HX25.out
  obtain ⟨ea28, eb28, ec28, -⟩ := deal_cells HX28.out
  obtain ⟨ea34, eb34, ec34, -⟩ := deal_cells HX34.out
  go_wp2_with fail
  clear eap0 ebp0 ea24 eb24 ec24 ea25 eb25 ea28 eb28 ec28 ea34 eb34 ec34
  refine (heldDeal_any (k := 1) (x := (runH x0 l1 l2 a3 [])) HO28.out.dl (by omega) (by omega)).mono ?_
  rintro e w_32 ⟨rfl, hb⟩
  have hs32 : w_31.heap.size ≤ w_32.heap.size := hb.size
  replace HO24 := Lib.hid (HO24.out.same hb)
  replace HO25 := Lib.hid (HO25.out.same hb)
  replace HO26 := Lib.hid (HO26.out.same hb)
  replace HO27 := Lib.hid (HO27.out.same hb)
  replace HO28 := Lib.hid (HO28.out.same hb)
  replace HO34 := Lib.hid (HO34.out.same hb)
  replace HXp0 := Lib.hid (((hb).block _ (by omega)).trans HXp0.out)
  replace HX24 := Lib.hid (((hb).block _ (by omega)).trans HX24.out)
  replace HX25 := Lib.hid (((hb).block _ (by omega)).trans HX25.out)
  replace HX28 := Lib.hid (((hb).block _ (by omega)).trans HX28.out)
  replace HX34 := Lib.hid (((hb).block _ (by omega)).trans HX34.out)
  replace HB := Lib.hid (HB.out.trans (hb.mono HB.out.size))
  clear hb
  obtain ⟨eap0, ebp0, -⟩ := two_cells HXp0.out
  obtain ⟨ea24, eb24, ec24, -⟩ := deal_cells HX24.out
  obtain ⟨ea25, eb25, -⟩ := two_cells HX25.out
  obtain ⟨ea28, eb28, ec28, -⟩ := deal_cells HX28.out
  obtain ⟨ea34, eb34, ec34, -⟩ := deal_cells HX34.out
  go_wp2_with fail
  clear eap0 ebp0 ea24 eb24 ec24 ea25 eb25 ea28 eb28 ec28 ea34 eb34 ec34
  go_ret
  exact ⟨rfl, HB.out⟩

set_option maxRecDepth 100000 in
theorem lifted (os : Os) (started : os.Started) (H : Type) (enc : TypeId × Value → H) :
    ReturnsInHanded {} Tryz.checked os 5 .any (Rows.fnExactHonestDealSpec.pre6 enc Tryz.prog Tryz.f5 Rows.fnExactHonestDealRow.domain false) (Rows.fnExactHonestDealSpec.post enc Tryz.prog Tryz.f5 false true false false) := by
  refine returnsInHanded_of_change (C := Tryz.checked) own started (by kernel_rfl) Tryz.func5
    (ChangeSpec.witness6 (enc := enc) (C := Tryz.checked) false ⟨#[], #[.agg #[.slice none 0 0, .slice none 0 0], .slice none 0 0, .slice none 0 0, .int .i64 0], []⟩ 8 (by kernel_rfl) (by kernel_rfl) (by kernel_rfl) (by kernel_rfl)) ?_
  intro W base args ds gs before hval0 hW hcnd _
  have hval : ∀ (j : Nat) t v, Tryz.f5.params[j]? = some t → args[j]? = some v → Value.okWide Tryz.prog W .any base t v := hval0
  have hW' := hW
  obtain ⟨p, q, hA0, hV, rfl, hfz, hnd⟩ := hW
  have hA : DataW.TrodAll enc Tryz.prog W 0 (fun _ => true) true Tryz.f5.params.toList args.toList ds p := hA0
  rw [Tryz.params5] at hA hval
  obtain ⟨v0, vs0, d0, ds0, p0, q0, hargs, rfl, rfl, h0, r0⟩ := trodAll_cons hA
  obtain ⟨v1, vs1, d1, ds1, p1, q1, rfl, rfl, rfl, h1, r1⟩ := trodAll_cons r0
  obtain ⟨v2, vs2, d2, ds2, p2, q2, rfl, rfl, rfl, h2, r2⟩ := trodAll_cons r1
  obtain ⟨v3, vs3, d3, ds3, p3, q3, rfl, rfl, rfl, h3, r3⟩ := trodAll_cons r2
  obtain ⟨rfl, rfl, rfl⟩ := trodAll_nil r3
  obtain rfl : args = #[v0, v1, v2, v3] := by cases args; simp_all
  obtain ⟨rfl, rfl⟩ := trodVars_none hV
  have h0k := h0
  have hlt0 : ∀ x ∈ p0, x.block < W.heap.size := fun x hx => by simpa using hW'.lt x (by simp [hx])
  obtain ⟨x0, K0, F0⟩ := open_hel Tryz.underlying52 (by kernel_rfl) (by kernel_rfl) Tryz.underlying24 Tryz.underlying3 int_cells Tryz.underlying50 Tryz.underlying137 (by kernel_rfl) (by kernel_rfl) Tryz.underlying3 Tryz.underlying24 (hval 0 52 v0 rfl rfl) h0
  have h1k := h1
  have hlt1 : ∀ x ∈ p1, x.block < W.heap.size := fun x hx => by simpa using hW'.lt x (by simp [hx])
  obtain ⟨a1, n1, c1, l1, rfl, K1, F1, R1⟩ := open_nums Tryz.underlying24 Tryz.underlying3 int_cells (hval 1 24 v1 rfl rfl) h1
  have h2k := h2
  have hlt2 : ∀ x ∈ p2, x.block < W.heap.size := fun x hx => by simpa using hW'.lt x (by simp [hx])
  obtain ⟨a2, n2, c2, l2, rfl, K2, F2, R2⟩ := open_nums Tryz.underlying24 Tryz.underlying3 int_cells (hval 2 24 v2 rfl rfl) h2
  obtain ⟨a3, rfl, rfl, rfl, w3⟩ := open_int Tryz.underlying3 (hval 3 3 v3 rfl rfl) h3
  clear hA0 hval0
  simp only [List.append_nil] at hW'
  refine (walk v0 x0 a1 n1 c1 l1 a2 n2 c2 l2 a3 w3 W K0 F0 K1 F1 R1 K2 F2 R2).mono fun e W' ⟨he, hb⟩ => ?_
  subst he
  exact ⟨_, rfl, ⟨_, _, _, [], _, [], hW', (trodAll_cons_mk (shut_bool Tryz.underlying4 _) trodAll_mk0), (trodAll_cons_mk (Below.trod laidOut (by kernel_rfl) (of_decide_eq_true (by kernel_rfl)) h0k hb hlt0) (trodAll_cons_mk (Below.trod laidOut (by kernel_rfl) (of_decide_eq_true (by kernel_rfl)) h1k hb hlt1) (trodAll_cons_mk (Below.trod laidOut (by kernel_rfl) (of_decide_eq_true (by kernel_rfl)) h2k hb hlt2) (trodAll_cons_mk (shut_int Tryz.underlying3 w3) trodAll_mk0)))), rfl, hb.frame _, fun h => by cases h⟩⟩

theorem over : Rows.fnExactHonestDealRow.holds Tryz.pinned (OpenSpec.ofChange Rows.fnExactHonestDealSpec) :=
  OpenClaim.holds_of_wide 5 Tryz.f5 rfl rfl rfl rfl rfl rfl rfl ⟨rfl, rfl, rfl, rfl, rfl⟩ rfl rfl rfl rfl rfl (by kernel_rfl) Tryz.func5 (by kernel_rfl)
    (of_decide_eq_true (by kernel_rfl)) (by unfold Func.isWrapper; first | (rw [if_pos (by decide +kernel)]; kernel_rfl) | (rw [if_neg (by decide +kernel)]; exact ⟨rfl, rfl⟩))
    (fun os started H enc _ => lifted os started H enc)

theorem proved : Rows.FnExactHonestDealSaid :=
  over
end Go.Proofs.YtcmjadfpifpknaaGreat.fnExactHonestDeal
