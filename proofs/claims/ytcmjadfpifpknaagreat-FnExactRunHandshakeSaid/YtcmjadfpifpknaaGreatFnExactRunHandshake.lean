/- RunHandshake: the program answers as its model. -/
import Derived.Test.YtcmjadfpifpknaaGreatG31
import Derived.Test.YtcmjadfpifpknaaGreatG32
import Derived.Test.YtcmjadfpifpknaaGreatG8
import Derived.WalkKit
import Derived.Deep.RegionHeld3
import Derived.ProofKit
import Derived.OpenShut
namespace Go.Proofs.YtcmjadfpifpknaaGreat.fnExactRunHandshake
open Go.ChangeShapes Go.WideShapes Go.ChangeAt Go.RowKit Go.Lib
open Go.ChangeMaps (open_string shut_string)
set_option linter.unusedVariables false

theorem own : ownKnob Tryz.prog.godebug = none := by kernel_rfl
set_option linter.unusedSimpArgs false

set_option maxHeartbeats 4000000 in
set_option maxRecDepth 100000 in
theorem walk (v0 : Value) (x0 : Hel) (a1 : Option Addr) (n1 c1 : Nat) (l1 : List Int) (a2 : Option Addr) (n2 c2 : Nat) (l2 : List Int) (a3 : Int) (w3 : (Lit.int .i64 a3).wf = true) (a4 : Option Addr) (n4 c4 : Nat) (l4 : List Et) (w : World) (K0 : HelW w v0 x0) (F0 : x0.wf) (K1 : Nums .i64 w a1 n1 l1) (F1 : ∀ x ∈ l1, (Lit.int .i64 x).wf = true) (R1 : n1 ≤ c1 ∧ (c1 : Int) ≤ 9223372036854775807) (K2 : Nums .i64 w a2 n2 l2) (F2 : ∀ x ∈ l2, (Lit.int .i64 x).wf = true) (R2 : n2 ≤ c2 ∧ (c2 : Int) ≤ 9223372036854775807) (K4 : Ets w a4 n4 l4) (F4 : ∀ x ∈ l4, x.wf) (R4 : n4 ≤ c4 ∧ (c4 : Int) ≤ 9223372036854775807) :
    Calls Tryz.prog 4 #[v0, .slice a1 n1 c1, .slice a2 n2 c2, .int .i64 a3, .slice a4 n4 c4] w fun e w' => e = .returned (.bool true) ∧ Below w.heap.size w w' := by
  obtain ⟨a90, n90, c90, b90, m90, d90, rfl⟩ := K0.shape
  have hfit1 := K1.fits
  have hfit2 := K2.fits
  have hfit4 := K4.fits
  by_cases hbig1 : 1048576 < n1
  · have HB9 : Hid (Below w.heap.size w (World.alloc w (.cells #[.slice a90 n90 c90, .slice b90 m90 d90] 52))) := Lib.hid (alloc_same w _)
    go_enter Tryz.func4, Tryz.ntmps4
    go_wp2_with fail
    go_ret
    exact ⟨rfl, HB9.out⟩
  by_cases hbig2 : 1048576 < n2
  · have HB9 : Hid (Below w.heap.size w (World.alloc w (.cells #[.slice a90 n90 c90, .slice b90 m90 d90] 52))) := Lib.hid (alloc_same w _)
    go_enter Tryz.func4, Tryz.ntmps4
    go_wp2_with fail
    go_ret
    exact ⟨rfl, HB9.out⟩
  by_cases hbig0 : 1048576 < x0.parts
  · have HB := Lib.hid (alloc_same w (.cells #[.slice a90 n90 c90, .slice b90 m90 d90] 52))
    have HXp0 := Lib.hid (heap_alloc_new w (.cells #[.slice a90 n90 c90, .slice b90 m90 d90] 52 (0, 0)))
    change Hid ((World.alloc w (.cells #[.slice a90 n90 c90, .slice b90 m90 d90] 52)).heap[w.heap.size]? = _) at HXp0
    have hs1 : w.heap.size + 1 ≤ (World.alloc w (.cells #[.slice a90 n90 c90, .slice b90 m90 d90] 52)).heap.size := by simp
    go_enter Tryz.func4, Tryz.ntmps4
    obtain ⟨eap0, ebp0, -⟩ := two_cells HXp0.out
    go_wp2_with fail
    clear eap0 ebp0
    generalize hgen : (World.alloc w (.cells #[.slice a90 n90 c90, .slice b90 m90 d90] 52)) = w_1 at *
    clear hgen
    refine (szHello_no (1048576) (K0.same HB.out) (by omega) (by omega) (by omega)).mono ?_
    rintro e w' ⟨rfl, hb⟩
    have HB2 := Lib.hid (HB.out.trans (hb.mono HB.out.size))
    go_wp2_with fail
    go_ret
    exact ⟨rfl, HB2.out⟩
  by_cases hbig4 : 1048576 < x0.parts + n4
  · have HB := Lib.hid (alloc_same w (.cells #[.slice a90 n90 c90, .slice b90 m90 d90] 52))
    have HXp0 := Lib.hid (heap_alloc_new w (.cells #[.slice a90 n90 c90, .slice b90 m90 d90] 52 (0, 0)))
    change Hid ((World.alloc w (.cells #[.slice a90 n90 c90, .slice b90 m90 d90] 52)).heap[w.heap.size]? = _) at HXp0
    have hs1 : w.heap.size + 1 ≤ (World.alloc w (.cells #[.slice a90 n90 c90, .slice b90 m90 d90] 52)).heap.size := by simp
    go_enter Tryz.func4, Tryz.ntmps4
    obtain ⟨eap0, ebp0, -⟩ := two_cells HXp0.out
    go_wp2_with fail
    clear eap0 ebp0
    generalize hgen : (World.alloc w (.cells #[.slice a90 n90 c90, .slice b90 m90 d90] 52)) = w_1 at *
    clear hgen
    refine (szHello_yes (1048576) (K0.same HB.out) (by omega) (by omega)).mono ?_
    rintro e w_2 ⟨rfl, hb⟩
    have hs2 : w_1.heap.size ≤ w_2.heap.size := hb.size
    replace HXp0 := Lib.hid (((hb).block _ (by omega)).trans HXp0.out)
    replace HB := Lib.hid (HB.out.trans (hb.mono HB.out.size))
    clear hb
    obtain ⟨eap0, ebp0, -⟩ := two_cells HXp0.out
    go_wp2_with fail
    clear eap0 ebp0
    refine (szEditS_no a4 n4 c4 (1048576 - x0.parts) _ (by omega) (by omega) (by omega)).mono ?_
    rintro e w' ⟨rfl, rfl⟩
    go_wp2_with fail
    go_ret
    exact ⟨rfl, HB.out⟩
  have HK1 := Lib.hid K1
  have HR1 := Lib.hid R1
  have hn1 : n1 ≤ 1048576 := by omega
  have HF1 := Lib.hid F1
  have HK2 := Lib.hid K2
  have HR2 := Lib.hid R2
  have hn2 : n2 ≤ 1048576 := by omega
  have HF2 := Lib.hid F2
  have HK4 := Lib.hid K4
  have HR4 := Lib.hid R4
  have hn4 : n4 ≤ 1048576 := by omega
  have HF4 := Lib.hid F4
  have HK0 := Lib.hid K0
  have hn0 : x0.parts ≤ 1048576 := by omega
  have hpw : (runH x0 l1 l2 a3 l4).parts ≤ 6 := runH_few x0 l1 l2 a3 l4
  clear K1 F1 R1 K2 F2 R2 K4 F4 R4 K0 F0
  have HB := Lib.hid (alloc_same w (.cells #[.slice a90 n90 c90, .slice b90 m90 d90] 52))
  have HXp0 := Lib.hid (heap_alloc_new w (.cells #[.slice a90 n90 c90, .slice b90 m90 d90] 52 (0, 0)))
  change Hid ((World.alloc w (.cells #[.slice a90 n90 c90, .slice b90 m90 d90] 52)).heap[w.heap.size]? = _) at HXp0
  have hs1 : w.heap.size + 1 ≤ (World.alloc w (.cells #[.slice a90 n90 c90, .slice b90 m90 d90] 52)).heap.size := by simp
  go_enter Tryz.func4, Tryz.ntmps4
  obtain ⟨eap0, ebp0, -⟩ := two_cells HXp0.out
  go_wp2_with fail
  clear eap0 ebp0
  generalize hgen : (World.alloc w (.cells #[.slice a90 n90 c90, .slice b90 m90 d90] 52)) = w_1 at *
  clear hgen
  refine (szHello_yes (1048576) (HK0.out.same HB.out) (by omega) (by omega)).mono ?_
  rintro e w_2 ⟨rfl, hb⟩
  have hs2 : w_1.heap.size ≤ w_2.heap.size := hb.size
  replace HXp0 := Lib.hid (((hb).block _ (by omega)).trans HXp0.out)
  replace HB := Lib.hid (HB.out.trans (hb.mono HB.out.size))
  clear hb
  obtain ⟨eap0, ebp0, -⟩ := two_cells HXp0.out
  go_wp2_with fail
  clear eap0 ebp0
  refine (told_is (szEditS_any a4 n4 c4 (1048576 - x0.parts) _ (by omega) (by omega))).mono ?_
  rintro e w_3 ⟨rfl, hb⟩
  have hs3 : w_2.heap.size ≤ w_3.heap.size := hb.size
  replace HXp0 := Lib.hid (((hb).block _ (by omega)).trans HXp0.out)
  replace HB := Lib.hid (HB.out.trans (hb.mono HB.out.size))
  clear hb
  obtain ⟨eap0, ebp0, -⟩ := two_cells HXp0.out
  go_wp2_with fail
  clear eap0 ebp0
  refine (toHello_any (HK0.out.same HB.out) (by omega)).mono ?_
  rintro e w_4 ⟨v21, rfl, ho, hb⟩
  have HN21 := Lib.hid ho
  have hs4 : w_3.heap.size ≤ w_4.heap.size := hb.size
  replace HXp0 := Lib.hid (((hb).block _ (by omega)).trans HXp0.out)
  replace HB := Lib.hid (HB.out.trans (hb.mono HB.out.size))
  clear ho
  clear hb
  have HO21 := HN21
  clear HN21
  obtain ⟨a21, n21, c21, b21, m21, d21, rfl⟩ := HO21.out.shape
  obtain ⟨eap0, ebp0, -⟩ := two_cells HXp0.out
  go_wp2_with fail
  clear eap0 ebp0
  refine (toIntS_any a1 n1 c1 l1 _ (HK1.out.same HB.out) (by omega)).mono ?_
  rintro e w_5 ⟨b22, m22, d22, rfl, ho, hb⟩
  have hm22 : m22 ≤ 1048576 := by have hl := ho.len; have := HK1.out.len; omega
  have HN22 := Lib.hid ho
  have HS22 := Lib.hid ho.span
  have hs5 : w_4.heap.size ≤ w_5.heap.size := hb.size
  replace HO21 := Lib.hid (HO21.out.same hb)
  replace HXp0 := Lib.hid (((hb).block _ (by omega)).trans HXp0.out)
  replace HB := Lib.hid (HB.out.trans (hb.mono HB.out.size))
  clear ho
  clear hb
  have HO22 := HN22
  clear HN22
  obtain ⟨eap0, ebp0, -⟩ := two_cells HXp0.out
  go_wp2_with fail
  clear eap0 ebp0
  refine (toIntS_any a2 n2 c2 l2 _ (HK2.out.same HB.out) (by omega)).mono ?_
  rintro e w_6 ⟨b23, m23, d23, rfl, ho, hb⟩
  have hm23 : m23 ≤ 1048576 := by have hl := ho.len; have := HK2.out.len; omega
  have HN23 := Lib.hid ho
  have HS23 := Lib.hid ho.span
  have hs6 : w_5.heap.size ≤ w_6.heap.size := hb.size
  replace HO21 := Lib.hid (HO21.out.same hb)
  replace HO22 := Lib.hid (HO22.out.same hb)
  replace HXp0 := Lib.hid (((hb).block _ (by omega)).trans HXp0.out)
  replace HB := Lib.hid (HB.out.trans (hb.mono HB.out.size))
  clear ho
  clear hb
  have HO23 := HN23
  clear HN23
  obtain ⟨eap0, ebp0, -⟩ := two_cells HXp0.out
  go_wp2_with fail
  clear eap0 ebp0
  refine (toEditS_any a4 n4 c4 l4 _ (HK4.out.same HB.out) (by omega)).mono ?_
  rintro e w_7 ⟨b24, m24, d24, rfl, ho, hb⟩
  have hm24 : m24 ≤ 1048576 := by have hl := ho.len; have := HK4.out.len; omega
  have HN24 := Lib.hid ho
  have HS24 := Lib.hid ho.span
  have hs7 : w_6.heap.size ≤ w_7.heap.size := hb.size
  replace HO21 := Lib.hid (HO21.out.same hb)
  replace HO22 := Lib.hid (HO22.out.same hb)
  replace HO23 := Lib.hid (HO23.out.same hb)
  replace HXp0 := Lib.hid (((hb).block _ (by omega)).trans HXp0.out)
  replace HB := Lib.hid (HB.out.trans (hb.mono HB.out.size))
  clear ho
  clear hb
  have HO24 := HN24
  clear HN24
  obtain ⟨eap0, ebp0, -⟩ := two_cells HXp0.out
  go_wp2_with fail
  clear eap0 ebp0
  refine (specRunHandshake_any a3 HO21.out.hel HO22.out.nums HO23.out.nums HF2.out (HO24.out.items Et.enc_len) HF4.out (by omega) (by omega)).mono ?_
  rintro e w_8 ⟨v25, rfl, ho, hb⟩
  have HN25 := Lib.hid ho
  have hs8 : w_7.heap.size ≤ w_8.heap.size := hb.size
  replace HO21 := Lib.hid (HO21.out.same hb)
  replace HO22 := Lib.hid (HO22.out.same hb)
  replace HO23 := Lib.hid (HO23.out.same hb)
  replace HO24 := Lib.hid (HO24.out.same hb)
  replace HXp0 := Lib.hid (((hb).block _ (by omega)).trans HXp0.out)
  replace HB := Lib.hid (HB.out.trans (hb.mono HB.out.size))
  clear ho
  clear hb
  have HO25 := HN25
  clear HN25
  obtain ⟨a25, n25, c25, rfl⟩ := HO25.out.shape
  clear HO21 HO22 HO23 HO24
  have HAL := Lib.hid (alloc_same w_8 (.cells #[.bool (runH x0 l1 l2 a3 l4).ok, .int .i64 (runH x0 l1 l2 a3 l4).ver, .slice a25 n25 c25] 32))
  have HX25 := Lib.hid (heap_alloc_new w_8 (.cells #[.bool (runH x0 l1 l2 a3 l4).ok, .int .i64 (runH x0 l1 l2 a3 l4).ver, .slice a25 n25 c25] 32 (0, 0)))
  change Hid ((World.alloc w_8 (.cells #[.bool (runH x0 l1 l2 a3 l4).ok, .int .i64 (runH x0 l1 l2 a3 l4).ver, .slice a25 n25 c25] 32)).heap[w_8.heap.size]? = _) at HX25
  replace HO25 := Lib.hid (HO25.out.same HAL.out)
  replace HXp0 := Lib.hid (((HAL.out).block _ (by omega)).trans HXp0.out)
  replace HB := Lib.hid (HB.out.trans (HAL.out.mono HB.out.size))
  have hs9 : w_8.heap.size < (World.alloc w_8 (.cells #[.bool (runH x0 l1 l2 a3 l4).ok, .int .i64 (runH x0 l1 l2 a3 l4).ver, .slice a25 n25 c25] 32)).heap.size := by simp
  obtain ⟨eap0, ebp0, -⟩ := two_cells HXp0.out
  obtain ⟨ea25, eb25, ec25, -⟩ := deal_cells HX25.out
  clear HAL
  go_wp2_with fail
  clear eap0 ebp0 ea25 eb25 ec25
  generalize hgen : World.alloc w_8 (.cells #[.bool (runH x0 l1 l2 a3 l4).ok, .int .i64 (runH x0 l1 l2 a3 l4).ver, .slice a25 n25 c25] 32) = w_9 at *
  clear hgen
  refine (toHello_any (HK0.out.same HB.out) (by omega)).mono ?_
  rintro e w_10 ⟨v26, rfl, ho, hb⟩
  have HN26 := Lib.hid ho
  have hs10 : w_9.heap.size ≤ w_10.heap.size := hb.size
  replace HO25 := Lib.hid (HO25.out.same hb)
  replace HXp0 := Lib.hid (((hb).block _ (by omega)).trans HXp0.out)
  replace HX25 := Lib.hid (((hb).block _ (by omega)).trans HX25.out)
  replace HB := Lib.hid (HB.out.trans (hb.mono HB.out.size))
  clear ho
  clear hb
  have HO26 := HN26
  clear HN26
  obtain ⟨a26, n26, c26, b26, m26, d26, rfl⟩ := HO26.out.shape
  have HAL := Lib.hid (alloc_same w_10 (.cells #[.slice a26 n26 c26, .slice b26 m26 d26] 27))
  have HX26 := Lib.hid (heap_alloc_new w_10 (.cells #[.slice a26 n26 c26, .slice b26 m26 d26] 27 (0, 0)))
  change Hid ((World.alloc w_10 (.cells #[.slice a26 n26 c26, .slice b26 m26 d26] 27)).heap[w_10.heap.size]? = _) at HX26
  replace HO25 := Lib.hid (HO25.out.same HAL.out)
  replace HO26 := Lib.hid (HO26.out.same HAL.out)
  replace HXp0 := Lib.hid (((HAL.out).block _ (by omega)).trans HXp0.out)
  replace HX25 := Lib.hid (((HAL.out).block _ (by omega)).trans HX25.out)
  replace HB := Lib.hid (HB.out.trans (HAL.out.mono HB.out.size))
  have hs11 : w_10.heap.size < (World.alloc w_10 (.cells #[.slice a26 n26 c26, .slice b26 m26 d26] 27)).heap.size := by simp
  obtain ⟨eap0, ebp0, -⟩ := two_cells HXp0.out
  obtain ⟨ea25, eb25, ec25, -⟩ := deal_cells HX25.out
  obtain ⟨ea26, eb26, -⟩ := two_cells HX26.out
  clear HAL
  go_wp2_with fail
  clear eap0 ebp0 ea25 eb25 ec25 ea26 eb26
  generalize hgen : World.alloc w_10 (.cells #[.slice a26 n26 c26, .slice b26 m26 d26] 27) = w_11 at *
  clear hgen
  refine (toIntS_any a1 n1 c1 l1 _ (HK1.out.same HB.out) (by omega)).mono ?_
  rintro e w_12 ⟨b27, m27, d27, rfl, ho, hb⟩
  have hm27 : m27 ≤ 1048576 := by have hl := ho.len; have := HK1.out.len; omega
  have HN27 := Lib.hid ho
  have HS27 := Lib.hid ho.span
  have hs12 : w_11.heap.size ≤ w_12.heap.size := hb.size
  replace HO25 := Lib.hid (HO25.out.same hb)
  replace HO26 := Lib.hid (HO26.out.same hb)
  replace HXp0 := Lib.hid (((hb).block _ (by omega)).trans HXp0.out)
  replace HX25 := Lib.hid (((hb).block _ (by omega)).trans HX25.out)
  replace HX26 := Lib.hid (((hb).block _ (by omega)).trans HX26.out)
  replace HB := Lib.hid (HB.out.trans (hb.mono HB.out.size))
  clear ho
  clear hb
  have HO27 := HN27
  clear HN27
  obtain ⟨eap0, ebp0, -⟩ := two_cells HXp0.out
  obtain ⟨ea25, eb25, ec25, -⟩ := deal_cells HX25.out
  obtain ⟨ea26, eb26, -⟩ := two_cells HX26.out
  go_wp2_with fail
  clear eap0 ebp0 ea25 eb25 ec25 ea26 eb26
  refine (toIntS_any a2 n2 c2 l2 _ (HK2.out.same HB.out) (by omega)).mono ?_
  rintro e w_13 ⟨b28, m28, d28, rfl, ho, hb⟩
  have hm28 : m28 ≤ 1048576 := by have hl := ho.len; have := HK2.out.len; omega
  have HN28 := Lib.hid ho
  have HS28 := Lib.hid ho.span
  have hs13 : w_12.heap.size ≤ w_13.heap.size := hb.size
  replace HO25 := Lib.hid (HO25.out.same hb)
  replace HO26 := Lib.hid (HO26.out.same hb)
  replace HO27 := Lib.hid (HO27.out.same hb)
  replace HXp0 := Lib.hid (((hb).block _ (by omega)).trans HXp0.out)
  replace HX25 := Lib.hid (((hb).block _ (by omega)).trans HX25.out)
  replace HX26 := Lib.hid (((hb).block _ (by omega)).trans HX26.out)
  replace HB := Lib.hid (HB.out.trans (hb.mono HB.out.size))
  clear ho
  clear hb
  have HO28 := HN28
  clear HN28
  obtain ⟨eap0, ebp0, -⟩ := two_cells HXp0.out
  obtain ⟨ea25, eb25, ec25, -⟩ := deal_cells HX25.out
  obtain ⟨ea26, eb26, -⟩ := two_cells HX26.out
  go_wp2_with fail
  clear eap0 ebp0 ea25 eb25 ec25 ea26 eb26
  refine (toEditS_any a4 n4 c4 l4 _ (HK4.out.same HB.out) (by omega)).mono ?_
  rintro e w_14 ⟨b29, m29, d29, rfl, ho, hb⟩
  have hm29 : m29 ≤ 1048576 := by have hl := ho.len; have := HK4.out.len; omega
  have HN29 := Lib.hid ho
  have HS29 := Lib.hid ho.span
  have hs14 : w_13.heap.size ≤ w_14.heap.size := hb.size
  replace HO25 := Lib.hid (HO25.out.same hb)
  replace HO26 := Lib.hid (HO26.out.same hb)
  replace HO27 := Lib.hid (HO27.out.same hb)
  replace HO28 := Lib.hid (HO28.out.same hb)
  replace HXp0 := Lib.hid (((hb).block _ (by omega)).trans HXp0.out)
  replace HX25 := Lib.hid (((hb).block _ (by omega)).trans HX25.out)
  replace HX26 := Lib.hid (((hb).block _ (by omega)).trans HX26.out)
  replace HB := Lib.hid (HB.out.trans (hb.mono HB.out.size))
  clear ho
  clear hb
  have HO29 := HN29
  clear HN29
  obtain ⟨eap0, ebp0, -⟩ := two_cells HXp0.out
  obtain ⟨ea25, eb25, ec25, -⟩ := deal_cells HX25.out
  obtain ⟨ea26, eb26, -⟩ := two_cells HX26.out
  go_wp2_with fail
  clear eap0 ebp0 ea25 eb25 ec25 ea26 eb26
  refine (runHandshake_any a3 HO26.out.hel HO27.out.nums HO28.out.nums HF2.out (HO29.out.items Et.enc_len) HF4.out (by omega) (by omega)).mono ?_
  rintro e w_15 ⟨v30, rfl, ho, hb⟩
  have HN30 := Lib.hid ho
  have hs15 : w_14.heap.size ≤ w_15.heap.size := hb.size
  replace HO25 := Lib.hid (HO25.out.same hb)
  replace HO26 := Lib.hid (HO26.out.same hb)
  replace HO27 := Lib.hid (HO27.out.same hb)
  replace HO28 := Lib.hid (HO28.out.same hb)
  replace HO29 := Lib.hid (HO29.out.same hb)
  replace HXp0 := Lib.hid (((hb).block _ (by omega)).trans HXp0.out)
  replace HX25 := Lib.hid (((hb).block _ (by omega)).trans HX25.out)
  replace HX26 := Lib.hid (((hb).block _ (by omega)).trans HX26.out)
  replace HB := Lib.hid (HB.out.trans (hb.mono HB.out.size))
  clear ho
  clear hb
  have HO30 := HN30
  clear HN30
  obtain ⟨a30, n30, c30, rfl⟩ := HO30.out.shape
  have HAL := Lib.hid (alloc_same w_15 (.cells #[.bool (runH x0 l1 l2 a3 l4).ok, .int .i64 (runH x0 l1 l2 a3 l4).ver, .slice a30 n30 c30] 32))
  have HX30 := Lib.hid (heap_alloc_new w_15 (.cells #[.bool (runH x0 l1 l2 a3 l4).ok, .int .i64 (runH x0 l1 l2 a3 l4).ver, .slice a30 n30 c30] 32 (0, 0)))
  change Hid ((World.alloc w_15 (.cells #[.bool (runH x0 l1 l2 a3 l4).ok, .int .i64 (runH x0 l1 l2 a3 l4).ver, .slice a30 n30 c30] 32)).heap[w_15.heap.size]? = _) at HX30
  replace HO25 := Lib.hid (HO25.out.same HAL.out)
  replace HO26 := Lib.hid (HO26.out.same HAL.out)
  replace HO27 := Lib.hid (HO27.out.same HAL.out)
  replace HO28 := Lib.hid (HO28.out.same HAL.out)
  replace HO29 := Lib.hid (HO29.out.same HAL.out)
  replace HO30 := Lib.hid (HO30.out.same HAL.out)
  replace HXp0 := Lib.hid (((HAL.out).block _ (by omega)).trans HXp0.out)
  replace HX25 := Lib.hid (((HAL.out).block _ (by omega)).trans HX25.out)
  replace HX26 := Lib.hid (((HAL.out).block _ (by omega)).trans HX26.out)
  replace HB := Lib.hid (HB.out.trans (HAL.out.mono HB.out.size))
  have hs16 : w_15.heap.size < (World.alloc w_15 (.cells #[.bool (runH x0 l1 l2 a3 l4).ok, .int .i64 (runH x0 l1 l2 a3 l4).ver, .slice a30 n30 c30] 32)).heap.size := by simp
  obtain ⟨eap0, ebp0, -⟩ := two_cells HXp0.out
  obtain ⟨ea25, eb25, ec25, -⟩ := deal_cells HX25.out
  obtain ⟨ea26, eb26, -⟩ := two_cells HX26.out
  obtain ⟨ea30, eb30, ec30, -⟩ := deal_cells HX30.out
  clear HAL
  go_wp2_with fail
  clear eap0 ebp0 ea25 eb25 ec25 ea26 eb26 ea30 eb30 ec30
  generalize hgen : World.alloc w_15 (.cells #[.bool (runH x0 l1 l2 a3 l4).ok, .int .i64 (runH x0 l1 l2 a3 l4).ver, .slice a30 n30 c30] 32) = w_16 at *
  clear hgen
  refine (eqDeal_yes HO30.out.dl HO25.out.dl).mono ?_
  rintro e w_17 ⟨rfl, hb⟩
  have hs17 : w_16.heap.size ≤ w_17.heap.size := hb.size
  replace HO25 := Lib.hid (HO25.out.same hb)
  replace HO26 := Lib.hid (HO26.out.same hb)
  replace HO27 := Lib.hid (HO27.out.same hb)
  replace HO28 := Lib.hid (HO28.out.same hb)
  replace HO29 := Lib.hid (HO29.out.same hb)
  replace HO30 := Lib.hid (HO30.out.same hb)
  replace HXp0 := Lib.hid (((hb).block _ (by omega)).trans HXp0.out)
  replace HX25 := Lib.hid (((hb).block _ (by omega)).trans HX25.out)
  replace HX26 := Lib.hid (((hb).block _ (by omega)).trans HX26.out)
  replace HX30 := Lib.hid (((hb).block _ (by omega)).trans HX30.out)
  replace HB := Lib.hid (HB.out.trans (hb.mono HB.out.size))
  clear hb
  obtain ⟨eap0, ebp0, -⟩ := two_cells HXp0.out
  obtain ⟨ea25, eb25, ec25, -⟩ := deal_cells HX25.out
  obtain ⟨ea26, eb26, -⟩ := two_cells HX26.out
  obtain ⟨ea30, eb30, ec30, -⟩ := deal_cells HX30.out
  go_wp2_with fail
  clear eap0 ebp0 ea25 eb25 ec25 ea26 eb26 ea30 eb30 ec30
  have CX26 := Lib.hid (two_cells HX26.out)
  have CXp0 := Lib.hid (two_cells HXp0.out)
  have HBd : Hid (Below w_17.heap.size w_17 w_17.drew) := Lib.hid (Below.refl _ _).drew
  refine wp_region_held_drew (S := fun w9 => w9.cell? ⟨w_10.heap.size, 0, none⟩ = some (.slice a26 n26 c26) ∧ w9.cell? ⟨w_10.heap.size, 1, none⟩ = some (.slice b26 m26 d26) ∧ w9.cell? ⟨w.heap.size, 0, none⟩ = some (.slice a90 n90 c90) ∧ w9.cell? ⟨w.heap.size, 1, none⟩ = some (.slice b90 m90 d90)) (by kernel_rfl) ⟨cell_stay CX26.out.1 HBd.out, cell_stay CX26.out.2.1 HBd.out, cell_stay CXp0.out.1 HBd.out, cell_stay CXp0.out.2.1 HBd.out⟩ (fun hHeld => ?_)
  refine wpAnyH_take (i := 0) (v := ?v2001) (by simp only [List.getElem?_toArray, List.getElem?_cons_succ, List.getElem?_cons_zero]; rfl) (by kernel_rfl) (by kernel_rfl) (by kernel_rfl) (by exact fun _ _ _ h => h) (Or.inl ⟨by rfl, fun w9 hS9 => ?hy2001⟩) hHeld ?rest2001
  case hy2001 =>
    dsimp only at hS9
    obtain ⟨z0, z1, z2, z3⟩ := hS9
    go_simp
    try with_reducible rfl
  try simp only [Act.put, List.setIfInBounds_toArray, List.set_cons_zero, List.set_cons_succ]
  refine wpAnyH_take (i := 1) (v := ?v2002) (by simp only [List.getElem?_toArray, List.getElem?_cons_succ, List.getElem?_cons_zero]; rfl) (by kernel_rfl) (by kernel_rfl) (by kernel_rfl) (by exact fun _ _ _ h => h) (Or.inl ⟨by rfl, fun w9 hS9 => ?hy2002⟩) hHeld ?rest2002
  case hy2002 =>
    dsimp only at hS9
    obtain ⟨z0, z1, z2, z3⟩ := hS9
    go_simp
    try with_reducible rfl
  try simp only [Act.put, List.setIfInBounds_toArray, List.set_cons_zero, List.set_cons_succ]
  refine wpAnyH_ready (rs := [2]) (by kernel_rfl) (by simp) (AllReadyH.cons (by simp only [List.getElem?_toArray, List.getElem?_cons_succ, List.getElem?_cons_zero]; rfl) (fun K hK => ?_) AllReadyH.nil)
  go_simp
  refine (toHello_any (HK0.out.same (HB.out.trans (HBd.out.mono HB.out.size))) (by omega)).mono ?_
  rintro e w1 ⟨b9, rfl, ho1, hb1⟩
  have HB1 : Hid (Below w_17.heap.size w_17 w1) := Lib.hid (HBd.out.trans (hb1.mono HBd.out.size))
  have HO9 := Lib.hid ho1.hel
  clear ho1
  clear hb1
  go_wp2_with fail
  refine hK.out _ _ ⟨cell_stay CX26.out.1 HB1.out, cell_stay CX26.out.2.1 HB1.out, cell_stay CXp0.out.1 HB1.out, cell_stay CXp0.out.2.1 HB1.out⟩ (fun hHeld => ?_)
  clear hK K
  try simp only [Act.put, List.setIfInBounds_toArray, List.set_cons_zero, List.set_cons_succ]
  refine wpAnyH_ready (rs := [3]) (by kernel_rfl) (by simp) (AllReadyH.cons (by simp only [List.getElem?_toArray, List.getElem?_cons_succ, List.getElem?_cons_zero]; rfl) (fun K hK => ?_) AllReadyH.nil)
  go_simp
  refine (eqHello_yes (HO26.out.hel.same HB1.out) HO9.out).mono ?_
  rintro e w2 ⟨rfl, hb2⟩
  have HB2 : Hid (Below w_17.heap.size w_17 w2) := Lib.hid (HB1.out.trans (hb2.mono HB1.out.size))
  clear hb2
  go_wp2_with fail
  refine hK.out _ _ ⟨cell_stay CX26.out.1 HB2.out, cell_stay CX26.out.2.1 HB2.out, cell_stay CXp0.out.1 HB2.out, cell_stay CXp0.out.2.1 HB2.out⟩ (fun hHeld => ?_)
  clear hK K
  try simp only [Act.put, List.setIfInBounds_toArray, List.set_cons_zero, List.set_cons_succ]
  refine wpAnyH_take (i := 4) (v := ?v2003) (by simp only [List.getElem?_toArray, List.getElem?_cons_succ, List.getElem?_cons_zero]; rfl) (by kernel_rfl) (by kernel_rfl) (by kernel_rfl) (by exact fun _ _ _ h => h) (Or.inl ⟨by rfl, fun w9 hS9 => ?hy2003⟩) hHeld ?rest2003
  case hy2003 =>
    dsimp only at hS9
    obtain ⟨z0, z1, z2, z3⟩ := hS9
    go_simp
    try with_reducible rfl
  try simp only [Act.put, List.setIfInBounds_toArray, List.set_cons_zero, List.set_cons_succ]
  refine wpAnyH_done (by kernel_rfl) ?_ _
  obtain ⟨w_18, hwv⟩ : ∃ u, u = w2 := ⟨w2, rfl⟩
  subst hwv
  have hs18 : w_17.heap.size ≤ w_18.heap.size := HB2.out.size
  replace HO25 := Lib.hid (HO25.out.same HB2.out)
  replace HO26 := Lib.hid (HO26.out.same HB2.out)
  replace HO27 := Lib.hid (HO27.out.same HB2.out)
  replace HO28 := Lib.hid (HO28.out.same HB2.out)
  replace HO29 := Lib.hid (HO29.out.same HB2.out)
  replace HO30 := Lib.hid (HO30.out.same HB2.out)
  replace HXp0 := Lib.hid (((HB2.out).block _ (by omega)).trans HXp0.out)
  replace HX25 := Lib.hid (((HB2.out).block _ (by omega)).trans HX25.out)
  replace HX26 := Lib.hid (((HB2.out).block _ (by omega)).trans HX26.out)
  replace HX30 := Lib.hid (((HB2.out).block _ (by omega)).trans HX30.out)
  replace HB := Lib.hid (HB.out.trans (HB2.out.mono HB.out.size))
  clear CX26 CXp0
  obtain ⟨eap0, ebp0, -⟩ := two_cells HXp0.out
  obtain ⟨ea25, eb25, ec25, -⟩ := deal_cells HX25.out
  obtain ⟨ea26, eb26, -⟩ := two_cells HX26.out
  obtain ⟨ea30, eb30, ec30, -⟩ := deal_cells HX30.out
  go_wp2_with fail
  clear eap0 ebp0 ea25 eb25 ec25 ea26 eb26 ea30 eb30 ec30
  refine (toIntS_any a1 n1 c1 l1 _ (HK1.out.same HB.out) (by omega)).mono ?_
  rintro e w_19 ⟨b31, m31, d31, rfl, ho, hb⟩
  have hm31 : m31 ≤ 1048576 := by have hl := ho.len; have := HK1.out.len; omega
  have HN31 := Lib.hid ho
  have HS31 := Lib.hid ho.span
  have hs19 : w_18.heap.size ≤ w_19.heap.size := hb.size
  replace HO25 := Lib.hid (HO25.out.same hb)
  replace HO26 := Lib.hid (HO26.out.same hb)
  replace HO27 := Lib.hid (HO27.out.same hb)
  replace HO28 := Lib.hid (HO28.out.same hb)
  replace HO29 := Lib.hid (HO29.out.same hb)
  replace HO30 := Lib.hid (HO30.out.same hb)
  replace HXp0 := Lib.hid (((hb).block _ (by omega)).trans HXp0.out)
  replace HX25 := Lib.hid (((hb).block _ (by omega)).trans HX25.out)
  replace HX26 := Lib.hid (((hb).block _ (by omega)).trans HX26.out)
  replace HX30 := Lib.hid (((hb).block _ (by omega)).trans HX30.out)
  replace HB := Lib.hid (HB.out.trans (hb.mono HB.out.size))
  clear ho
  clear hb
  have HO31 := HN31
  clear HN31
  obtain ⟨eap0, ebp0, -⟩ := two_cells HXp0.out
  obtain ⟨ea25, eb25, ec25, -⟩ := deal_cells HX25.out
  obtain ⟨ea26, eb26, -⟩ := two_cells HX26.out
  obtain ⟨ea30, eb30, ec30, -⟩ := deal_cells HX30.out
  go_wp2_with fail
  clear eap0 ebp0 ea25 eb25 ec25 ea26 eb26 ea30 eb30 ec30
  refine (eqIntS_yes b27 b31 m27 m31 d27 d31 _ _ HO27.out.nums HO31.out.nums).mono ?_
  rintro e w_20 ⟨rfl, hb⟩
  have hs20 : w_19.heap.size ≤ w_20.heap.size := hb.size
  replace HO25 := Lib.hid (HO25.out.same hb)
  replace HO26 := Lib.hid (HO26.out.same hb)
  replace HO27 := Lib.hid (HO27.out.same hb)
  replace HO28 := Lib.hid (HO28.out.same hb)
  replace HO29 := Lib.hid (HO29.out.same hb)
  replace HO30 := Lib.hid (HO30.out.same hb)
  replace HO31 := Lib.hid (HO31.out.same hb)
  replace HXp0 := Lib.hid (((hb).block _ (by omega)).trans HXp0.out)
  replace HX25 := Lib.hid (((hb).block _ (by omega)).trans HX25.out)
  replace HX26 := Lib.hid (((hb).block _ (by omega)).trans HX26.out)
  replace HX30 := Lib.hid (((hb).block _ (by omega)).trans HX30.out)
  replace HB := Lib.hid (HB.out.trans (hb.mono HB.out.size))
  clear hb
  clear HO31
  obtain ⟨eap0, ebp0, -⟩ := two_cells HXp0.out
  obtain ⟨ea25, eb25, ec25, -⟩ := deal_cells HX25.out
  obtain ⟨ea26, eb26, -⟩ := two_cells HX26.out
  obtain ⟨ea30, eb30, ec30, -⟩ := deal_cells HX30.out
  go_wp2_with fail
  clear eap0 ebp0 ea25 eb25 ec25 ea26 eb26 ea30 eb30 ec30
  refine (toIntS_any a2 n2 c2 l2 _ (HK2.out.same HB.out) (by omega)).mono ?_
  rintro e w_21 ⟨b32, m32, d32, rfl, ho, hb⟩
  have hm32 : m32 ≤ 1048576 := by have hl := ho.len; have := HK2.out.len; omega
  have HN32 := Lib.hid ho
  have HS32 := Lib.hid ho.span
  have hs21 : w_20.heap.size ≤ w_21.heap.size := hb.size
  replace HO25 := Lib.hid (HO25.out.same hb)
  replace HO26 := Lib.hid (HO26.out.same hb)
  replace HO27 := Lib.hid (HO27.out.same hb)
  replace HO28 := Lib.hid (HO28.out.same hb)
  replace HO29 := Lib.hid (HO29.out.same hb)
  replace HO30 := Lib.hid (HO30.out.same hb)
  replace HXp0 := Lib.hid (((hb).block _ (by omega)).trans HXp0.out)
  replace HX25 := Lib.hid (((hb).block _ (by omega)).trans HX25.out)
  replace HX26 := Lib.hid (((hb).block _ (by omega)).trans HX26.out)
  replace HX30 := Lib.hid (((hb).block _ (by omega)).trans HX30.out)
  replace HB := Lib.hid (HB.out.trans (hb.mono HB.out.size))
  clear ho
  clear hb
  have HO32 := HN32
  clear HN32
  obtain ⟨eap0, ebp0, -⟩ := two_cells HXp0.out
  obtain ⟨ea25, eb25, ec25, -⟩ := deal_cells HX25.out
  obtain ⟨ea26, eb26, -⟩ := two_cells HX26.out
  obtain ⟨ea30, eb30, ec30, -⟩ := deal_cells HX30.out
  go_wp2_with fail
  clear eap0 ebp0 ea25 eb25 ec25 ea26 eb26 ea30 eb30 ec30
  refine (eqIntS_yes b28 b32 m28 m32 d28 d32 _ _ HO28.out.nums HO32.out.nums).mono ?_
  rintro e w_22 ⟨rfl, hb⟩
  have hs22 : w_21.heap.size ≤ w_22.heap.size := hb.size
  replace HO25 := Lib.hid (HO25.out.same hb)
  replace HO26 := Lib.hid (HO26.out.same hb)
  replace HO27 := Lib.hid (HO27.out.same hb)
  replace HO28 := Lib.hid (HO28.out.same hb)
  replace HO29 := Lib.hid (HO29.out.same hb)
  replace HO30 := Lib.hid (HO30.out.same hb)
  replace HO32 := Lib.hid (HO32.out.same hb)
  replace HXp0 := Lib.hid (((hb).block _ (by omega)).trans HXp0.out)
  replace HX25 := Lib.hid (((hb).block _ (by omega)).trans HX25.out)
  replace HX26 := Lib.hid (((hb).block _ (by omega)).trans HX26.out)
  replace HX30 := Lib.hid (((hb).block _ (by omega)).trans HX30.out)
  replace HB := Lib.hid (HB.out.trans (hb.mono HB.out.size))
  clear hb
  clear HO32
  obtain ⟨eap0, ebp0, -⟩ := two_cells HXp0.out
  obtain ⟨ea25, eb25, ec25, -⟩ := deal_cells HX25.out
  obtain ⟨ea26, eb26, -⟩ := two_cells HX26.out
  obtain ⟨ea30, eb30, ec30, -⟩ := deal_cells HX30.out
  go_wp2_with fail
  clear eap0 ebp0 ea25 eb25 ec25 ea26 eb26 ea30 eb30 ec30
  refine (toEditS_any a4 n4 c4 l4 _ (HK4.out.same HB.out) (by omega)).mono ?_
  rintro e w_23 ⟨b33, m33, d33, rfl, ho, hb⟩
  have hm33 : m33 ≤ 1048576 := by have hl := ho.len; have := HK4.out.len; omega
  have HN33 := Lib.hid ho
  have HS33 := Lib.hid ho.span
  have hs23 : w_22.heap.size ≤ w_23.heap.size := hb.size
  replace HO25 := Lib.hid (HO25.out.same hb)
  replace HO26 := Lib.hid (HO26.out.same hb)
  replace HO27 := Lib.hid (HO27.out.same hb)
  replace HO28 := Lib.hid (HO28.out.same hb)
  replace HO29 := Lib.hid (HO29.out.same hb)
  replace HO30 := Lib.hid (HO30.out.same hb)
  replace HXp0 := Lib.hid (((hb).block _ (by omega)).trans HXp0.out)
  replace HX25 := Lib.hid (((hb).block _ (by omega)).trans HX25.out)
  replace HX26 := Lib.hid (((hb).block _ (by omega)).trans HX26.out)
  replace HX30 := Lib.hid (((hb).block _ (by omega)).trans HX30.out)
  replace HB := Lib.hid (HB.out.trans (hb.mono HB.out.size))
  clear ho
  clear hb
  have HO33 := HN33
  clear HN33
  obtain ⟨eap0, ebp0, -⟩ := two_cells HXp0.out
  obtain ⟨ea25, eb25, ec25, -⟩ := deal_cells HX25.out
  obtain ⟨ea26, eb26, -⟩ := two_cells HX26.out
  obtain ⟨ea30, eb30, ec30, -⟩ := deal_cells HX30.out
  go_wp2_with fail
  clear eap0 ebp0 ea25 eb25 ec25 ea26 eb26 ea30 eb30 ec30
  refine (eqEditS_yes b29 b33 m29 m33 d29 d33 _ _ (HO29.out.items Et.enc_len) (HO33.out.items Et.enc_len)).mono ?_
  rintro e w_24 ⟨rfl, hb⟩
  have hs24 : w_23.heap.size ≤ w_24.heap.size := hb.size
  replace HO25 := Lib.hid (HO25.out.same hb)
  replace HO26 := Lib.hid (HO26.out.same hb)
  replace HO27 := Lib.hid (HO27.out.same hb)
  replace HO28 := Lib.hid (HO28.out.same hb)
  replace HO29 := Lib.hid (HO29.out.same hb)
  replace HO30 := Lib.hid (HO30.out.same hb)
  replace HO33 := Lib.hid (HO33.out.same hb)
  replace HXp0 := Lib.hid (((hb).block _ (by omega)).trans HXp0.out)
  replace HX25 := Lib.hid (((hb).block _ (by omega)).trans HX25.out)
  replace HX26 := Lib.hid (((hb).block _ (by omega)).trans HX26.out)
  replace HX30 := Lib.hid (((hb).block _ (by omega)).trans HX30.out)
  replace HB := Lib.hid (HB.out.trans (hb.mono HB.out.size))
  clear hb
  clear HO33
  obtain ⟨eap0, ebp0, -⟩ := two_cells HXp0.out
  obtain ⟨ea25, eb25, ec25, -⟩ := deal_cells HX25.out
  obtain ⟨ea26, eb26, -⟩ := two_cells HX26.out
  obtain ⟨ea30, eb30, ec30, -⟩ := deal_cells HX30.out
  go_wp2_with fail
  clear eap0 ebp0 ea25 eb25 ec25 ea26 eb26 ea30 eb30 ec30
  refine (markHello_any (k := 1) HO26.out (by omega) (by omega)).mono ?_
  rintro e w_25 ⟨rfl, ho, hg⟩
  have hs25 : w_24.heap.size ≤ w_25.heap.size := hg.size
  replace HO25 := Lib.hid (HO25.out.aside hg (by omega))
  replace HO27 := Lib.hid (HO27.out.aside hg HS27.out (by omega))
  replace HO28 := Lib.hid (HO28.out.aside hg HS28.out (by omega))
  replace HO29 := Lib.hid (HO29.out.aside hg HS29.out (by omega))
  replace HO30 := Lib.hid (HO30.out.aside hg (by omega))
  replace HXp0 := Lib.hid ((hg.block _ (by omega) (by omega)).trans HXp0.out)
  replace HX25 := Lib.hid ((hg.block _ (by omega) (by omega)).trans HX25.out)
  replace HX26 := Lib.hid ((hg.block _ (by omega) (by omega)).trans HX26.out)
  replace HX30 := Lib.hid ((hg.block _ (by omega) (by omega)).trans HX30.out)
  replace HO26 := Lib.hid ho
  replace HB := Lib.hid (hg.to HB.out (by omega) HB.out.size)
  clear ho hg
  obtain ⟨eap0, ebp0, -⟩ := two_cells HXp0.out
  obtain ⟨ea25, eb25, ec25, -⟩ := deal_cells HX25.out
  obtain ⟨ea26, eb26, -⟩ := two_cells HX26.out
  obtain ⟨ea30, eb30, ec30, -⟩ := deal_cells HX30.out
  go_wp2_with fail
  clear eap0 ebp0 ea25 eb25 ec25 ea26 eb26 ea30 eb30 ec30
  refine (markIntS_any _ b27 m27 d27 (1 + x0.parts) l1 _ HO27.out (by omega) (by omega)).mono ?_
  rintro e w_26 ⟨rfl, ho, hg0⟩
  have hg : Inside w_11.heap.size w_12.heap.size w_25 w_26 := Inside.row hg0 fun r e => by obtain ⟨ad, e1, rfl⟩ := block_of e; exact HS27.out ad e1
  have hs26 : w_25.heap.size ≤ w_26.heap.size := hg.size
  replace HO25 := Lib.hid (HO25.out.aside hg (by omega))
  replace HO26 := Lib.hid (HO26.out.aside hg (by omega))
  replace HO28 := Lib.hid (HO28.out.aside hg HS28.out (by omega))
  replace HO29 := Lib.hid (HO29.out.aside hg HS29.out (by omega))
  replace HO30 := Lib.hid (HO30.out.aside hg (by omega))
  replace HXp0 := Lib.hid ((hg.block _ (by omega) (by omega)).trans HXp0.out)
  replace HX25 := Lib.hid ((hg.block _ (by omega) (by omega)).trans HX25.out)
  replace HX26 := Lib.hid ((hg.block _ (by omega) (by omega)).trans HX26.out)
  replace HX30 := Lib.hid ((hg.block _ (by omega) (by omega)).trans HX30.out)
  replace HO27 := Lib.hid ho
  replace HB := Lib.hid (hg.to HB.out (by omega) HB.out.size)
  clear ho hg hg0
  obtain ⟨eap0, ebp0, -⟩ := two_cells HXp0.out
  obtain ⟨ea25, eb25, ec25, -⟩ := deal_cells HX25.out
  obtain ⟨ea26, eb26, -⟩ := two_cells HX26.out
  obtain ⟨ea30, eb30, ec30, -⟩ := deal_cells HX30.out
  go_wp2_with fail
  clear eap0 ebp0 ea25 eb25 ec25 ea26 eb26 ea30 eb30 ec30
  refine (markIntS_any _ b28 m28 d28 (1 + x0.parts + m27) l2 _ HO28.out (by omega) (by omega)).mono ?_
  rintro e w_27 ⟨rfl, ho, hg0⟩
  have hg : Inside w_12.heap.size w_13.heap.size w_26 w_27 := Inside.row hg0 fun r e => by obtain ⟨ad, e1, rfl⟩ := block_of e; exact HS28.out ad e1
  have hs27 : w_26.heap.size ≤ w_27.heap.size := hg.size
  replace HO25 := Lib.hid (HO25.out.aside hg (by omega))
  replace HO26 := Lib.hid (HO26.out.aside hg (by omega))
  replace HO27 := Lib.hid (HO27.out.aside hg HS27.out (by omega))
  replace HO29 := Lib.hid (HO29.out.aside hg HS29.out (by omega))
  replace HO30 := Lib.hid (HO30.out.aside hg (by omega))
  replace HXp0 := Lib.hid ((hg.block _ (by omega) (by omega)).trans HXp0.out)
  replace HX25 := Lib.hid ((hg.block _ (by omega) (by omega)).trans HX25.out)
  replace HX26 := Lib.hid ((hg.block _ (by omega) (by omega)).trans HX26.out)
  replace HX30 := Lib.hid ((hg.block _ (by omega) (by omega)).trans HX30.out)
  replace HO28 := Lib.hid ho
  replace HB := Lib.hid (hg.to HB.out (by omega) HB.out.size)
  clear ho hg hg0
  obtain ⟨eap0, ebp0, -⟩ := two_cells HXp0.out
  obtain ⟨ea25, eb25, ec25, -⟩ := deal_cells HX25.out
  obtain ⟨ea26, eb26, -⟩ := two_cells HX26.out
  obtain ⟨ea30, eb30, ec30, -⟩ := deal_cells HX30.out
  go_wp2_with fail
  clear eap0 ebp0 ea25 eb25 ec25 ea26 eb26 ea30 eb30 ec30
  refine (markEditS_any _ b29 m29 d29 (1 + x0.parts + m27 + m28) l4 _ HO29.out (by omega) (by omega)).mono ?_
  rintro e w_28 ⟨rfl, ho, hg0⟩
  have hg : Inside w_13.heap.size w_14.heap.size w_27 w_28 := Inside.row hg0 fun r e => by obtain ⟨ad, e1, rfl⟩ := block_of e; exact HS29.out ad e1
  have hs28 : w_27.heap.size ≤ w_28.heap.size := hg.size
  replace HO25 := Lib.hid (HO25.out.aside hg (by omega))
  replace HO26 := Lib.hid (HO26.out.aside hg (by omega))
  replace HO27 := Lib.hid (HO27.out.aside hg HS27.out (by omega))
  replace HO28 := Lib.hid (HO28.out.aside hg HS28.out (by omega))
  replace HO30 := Lib.hid (HO30.out.aside hg (by omega))
  replace HXp0 := Lib.hid ((hg.block _ (by omega) (by omega)).trans HXp0.out)
  replace HX25 := Lib.hid ((hg.block _ (by omega) (by omega)).trans HX25.out)
  replace HX26 := Lib.hid ((hg.block _ (by omega) (by omega)).trans HX26.out)
  replace HX30 := Lib.hid ((hg.block _ (by omega) (by omega)).trans HX30.out)
  replace HO29 := Lib.hid ho
  replace HB := Lib.hid (hg.to HB.out (by omega) HB.out.size)
  clear ho hg hg0
  obtain ⟨eap0, ebp0, -⟩ := two_cells HXp0.out
  obtain ⟨ea25, eb25, ec25, -⟩ := deal_cells HX25.out
  obtain ⟨ea26, eb26, -⟩ := two_cells HX26.out
  obtain ⟨ea30, eb30, ec30, -⟩ := deal_cells HX30.out
  go_wp2_with fail
  clear eap0 ebp0 ea25 eb25 ec25 ea26 eb26 ea30 eb30 ec30
  refine (eqDeal_yes HO30.out.dl HO25.out.dl).mono ?_
  rintro e w_29 ⟨rfl, hb⟩
  have hs29 : w_28.heap.size ≤ w_29.heap.size := hb.size
  replace HO25 := Lib.hid (HO25.out.same hb)
  replace HO26 := Lib.hid (HO26.out.same hb)
  replace HO27 := Lib.hid (HO27.out.same hb)
  replace HO28 := Lib.hid (HO28.out.same hb)
  replace HO29 := Lib.hid (HO29.out.same hb)
  replace HO30 := Lib.hid (HO30.out.same hb)
  replace HXp0 := Lib.hid (((hb).block _ (by omega)).trans HXp0.out)
  replace HX25 := Lib.hid (((hb).block _ (by omega)).trans HX25.out)
  replace HX26 := Lib.hid (((hb).block _ (by omega)).trans HX26.out)
  replace HX30 := Lib.hid (((hb).block _ (by omega)).trans HX30.out)
  replace HB := Lib.hid (HB.out.trans (hb.mono HB.out.size))
  clear hb
  obtain ⟨eap0, ebp0, -⟩ := two_cells HXp0.out
  obtain ⟨ea25, eb25, ec25, -⟩ := deal_cells HX25.out
  obtain ⟨ea26, eb26, -⟩ := two_cells HX26.out
  obtain ⟨ea30, eb30, ec30, -⟩ := deal_cells HX30.out
  go_wp2_with fail
  clear eap0 ebp0 ea25 eb25 ec25 ea26 eb26 ea30 eb30 ec30
  refine (markDeal_any (k := 1) HO30.out (by omega) (by omega)).mono ?_
  rintro e w_30 ⟨rfl, ho, hg⟩
  have hs30 : w_29.heap.size ≤ w_30.heap.size := hg.size
  replace HO25 := Lib.hid (HO25.out.aside hg (by omega))
  replace HO26 := Lib.hid (HO26.out.aside hg (by omega))
  replace HO27 := Lib.hid (HO27.out.aside hg HS27.out (by omega))
  replace HO28 := Lib.hid (HO28.out.aside hg HS28.out (by omega))
  replace HO29 := Lib.hid (HO29.out.aside hg HS29.out (by omega))
  replace HXp0 := Lib.hid ((hg.block _ (by omega) (by omega)).trans HXp0.out)
  replace HX25 := Lib.hid ((hg.block _ (by omega) (by omega)).trans HX25.out)
  replace HX26 := Lib.hid ((hg.block _ (by omega) (by omega)).trans HX26.out)
  replace HX30 := Lib.hid ((hg.block _ (by omega) (by omega)).trans HX30.out)
  replace HO30 := Lib.hid ho
  replace HB := Lib.hid (hg.to HB.out (by omega) HB.out.size)
  clear ho hg
  obtain ⟨eap0, ebp0, -⟩ := two_cells HXp0.out
  obtain ⟨ea25, eb25, ec25, -⟩ := deal_cells HX25.out
  obtain ⟨ea26, eb26, -⟩ := two_cells HX26.out
  obtain ⟨ea30, eb30, ec30, -⟩ := deal_cells HX30.out
  go_wp2_with fail
  clear eap0 ebp0 ea25 eb25 ec25 ea26 eb26 ea30 eb30 ec30
  refine (heldDeal_any (k := 1) (x := (runH x0 l1 l2 a3 l4)) HO30.out.dl (by omega) (by omega)).mono ?_
  rintro e w_31 ⟨rfl, hb⟩
  have hs31 : w_30.heap.size ≤ w_31.heap.size := hb.size
  replace HO25 := Lib.hid (HO25.out.same hb)
  replace HO26 := Lib.hid (HO26.out.same hb)
  replace HO27 := Lib.hid (HO27.out.same hb)
  replace HO28 := Lib.hid (HO28.out.same hb)
  replace HO29 := Lib.hid (HO29.out.same hb)
  replace HO30 := Lib.hid (HO30.out.same hb)
  replace HXp0 := Lib.hid (((hb).block _ (by omega)).trans HXp0.out)
  replace HX25 := Lib.hid (((hb).block _ (by omega)).trans HX25.out)
  replace HX26 := Lib.hid (((hb).block _ (by omega)).trans HX26.out)
  replace HX30 := Lib.hid (((hb).block _ (by omega)).trans HX30.out)
  replace HB := Lib.hid (HB.out.trans (hb.mono HB.out.size))
  clear hb
  obtain ⟨eap0, ebp0, -⟩ := two_cells HXp0.out
  obtain ⟨ea25, eb25, ec25, -⟩ := deal_cells HX25.out
  obtain ⟨ea26, eb26, -⟩ := two_cells HX26.out
  obtain ⟨ea30, eb30, ec30, -⟩ := deal_cells HX30.out
  go_wp2_with fail
  clear eap0 ebp0 ea25 eb25 ec25 ea26 eb26 ea30 eb30 ec30
  refine (toHello_any (HK0.out.same HB.out) (by omega)).mono ?_
  rintro e w_32 ⟨v34, rfl, ho, hb⟩
  have HN34 := Lib.hid ho
  have hs32 : w_31.heap.size ≤ w_32.heap.size := hb.size
  replace HO25 := Lib.hid (HO25.out.same hb)
  replace HO26 := Lib.hid (HO26.out.same hb)
  replace HO27 := Lib.hid (HO27.out.same hb)
  replace HO28 := Lib.hid (HO28.out.same hb)
  replace HO29 := Lib.hid (HO29.out.same hb)
  replace HO30 := Lib.hid (HO30.out.same hb)
  replace HXp0 := Lib.hid (((hb).block _ (by omega)).trans HXp0.out)
  replace HX25 := Lib.hid (((hb).block _ (by omega)).trans HX25.out)
  replace HX26 := Lib.hid (((hb).block _ (by omega)).trans HX26.out)
  replace HX30 := Lib.hid (((hb).block _ (by omega)).trans HX30.out)
  replace HB := Lib.hid (HB.out.trans (hb.mono HB.out.size))
  clear ho
  clear hb
  have HO34 := HN34
  clear HN34
  obtain ⟨a34, n34, c34, b34, m34, d34, rfl⟩ := HO34.out.shape
  obtain ⟨eap0, ebp0, -⟩ := two_cells HXp0.out
  obtain ⟨ea25, eb25, ec25, -⟩ := deal_cells HX25.out
  obtain ⟨ea26, eb26, -⟩ := two_cells HX26.out
  obtain ⟨ea30, eb30, ec30, -⟩ := deal_cells HX30.out
  go_wp2_with fail
  clear eap0 ebp0 ea25 eb25 ec25 ea26 eb26 ea30 eb30 ec30
  refine (toIntS_any a1 n1 c1 l1 _ (HK1.out.same HB.out) (by omega)).mono ?_
  rintro e w_33 ⟨b35, m35, d35, rfl, ho, hb⟩
  have hm35 : m35 ≤ 1048576 := by have hl := ho.len; have := HK1.out.len; omega
  have HN35 := Lib.hid ho
  have HS35 := Lib.hid ho.span
  have hs33 : w_32.heap.size ≤ w_33.heap.size := hb.size
  replace HO25 := Lib.hid (HO25.out.same hb)
  replace HO26 := Lib.hid (HO26.out.same hb)
  replace HO27 := Lib.hid (HO27.out.same hb)
  replace HO28 := Lib.hid (HO28.out.same hb)
  replace HO29 := Lib.hid (HO29.out.same hb)
  replace HO30 := Lib.hid (HO30.out.same hb)
  replace HO34 := Lib.hid (HO34.out.same hb)
  replace HXp0 := Lib.hid (((hb).block _ (by omega)).trans HXp0.out)
  replace HX25 := Lib.hid (((hb).block _ (by omega)).trans HX25.out)
  replace HX26 := Lib.hid (((hb).block _ (by omega)).trans HX26.out)
  replace HX30 := Lib.hid (((hb).block _ (by omega)).trans HX30.out)
  replace HB := Lib.hid (HB.out.trans (hb.mono HB.out.size))
  clear ho
  clear hb
  have HO35 := HN35
  clear HN35
  obtain ⟨eap0, ebp0, -⟩ := two_cells HXp0.out
  obtain ⟨ea25, eb25, ec25, -⟩ := deal_cells HX25.out
  obtain ⟨ea26, eb26, -⟩ := two_cells HX26.out
  obtain ⟨ea30, eb30, ec30, -⟩ := deal_cells HX30.out
  go_wp2_with fail
  clear eap0 ebp0 ea25 eb25 ec25 ea26 eb26 ea30 eb30 ec30
  refine (toIntS_any a2 n2 c2 l2 _ (HK2.out.same HB.out) (by omega)).mono ?_
  rintro e w_34 ⟨b36, m36, d36, rfl, ho, hb⟩
  have hm36 : m36 ≤ 1048576 := by have hl := ho.len; have := HK2.out.len; omega
  have HN36 := Lib.hid ho
  have HS36 := Lib.hid ho.span
  have hs34 : w_33.heap.size ≤ w_34.heap.size := hb.size
  replace HO25 := Lib.hid (HO25.out.same hb)
  replace HO26 := Lib.hid (HO26.out.same hb)
  replace HO27 := Lib.hid (HO27.out.same hb)
  replace HO28 := Lib.hid (HO28.out.same hb)
  replace HO29 := Lib.hid (HO29.out.same hb)
  replace HO30 := Lib.hid (HO30.out.same hb)
  replace HO34 := Lib.hid (HO34.out.same hb)
  replace HO35 := Lib.hid (HO35.out.same hb)
  replace HXp0 := Lib.hid (((hb).block _ (by omega)).trans HXp0.out)
  replace HX25 := Lib.hid (((hb).block _ (by omega)).trans HX25.out)
  replace HX26 := Lib.hid (((hb).block _ (by omega)).trans HX26.out)
  replace HX30 := Lib.hid (((hb).block _ (by omega)).trans HX30.out)
  replace HB := Lib.hid (HB.out.trans (hb.mono HB.out.size))
  clear ho
  clear hb
  have HO36 := HN36
  clear HN36
  obtain ⟨eap0, ebp0, -⟩ := two_cells HXp0.out
  obtain ⟨ea25, eb25, ec25, -⟩ := deal_cells HX25.out
  obtain ⟨ea26, eb26, -⟩ := two_cells HX26.out
  obtain ⟨ea30, eb30, ec30, -⟩ := deal_cells HX30.out
  go_wp2_with fail
  clear eap0 ebp0 ea25 eb25 ec25 ea26 eb26 ea30 eb30 ec30
  refine (toEditS_any a4 n4 c4 l4 _ (HK4.out.same HB.out) (by omega)).mono ?_
  rintro e w_35 ⟨b37, m37, d37, rfl, ho, hb⟩
  have hm37 : m37 ≤ 1048576 := by have hl := ho.len; have := HK4.out.len; omega
  have HN37 := Lib.hid ho
  have HS37 := Lib.hid ho.span
  have hs35 : w_34.heap.size ≤ w_35.heap.size := hb.size
  replace HO25 := Lib.hid (HO25.out.same hb)
  replace HO26 := Lib.hid (HO26.out.same hb)
  replace HO27 := Lib.hid (HO27.out.same hb)
  replace HO28 := Lib.hid (HO28.out.same hb)
  replace HO29 := Lib.hid (HO29.out.same hb)
  replace HO30 := Lib.hid (HO30.out.same hb)
  replace HO34 := Lib.hid (HO34.out.same hb)
  replace HO35 := Lib.hid (HO35.out.same hb)
  replace HO36 := Lib.hid (HO36.out.same hb)
  replace HXp0 := Lib.hid (((hb).block _ (by omega)).trans HXp0.out)
  replace HX25 := Lib.hid (((hb).block _ (by omega)).trans HX25.out)
  replace HX26 := Lib.hid (((hb).block _ (by omega)).trans HX26.out)
  replace HX30 := Lib.hid (((hb).block _ (by omega)).trans HX30.out)
  replace HB := Lib.hid (HB.out.trans (hb.mono HB.out.size))
  clear ho
  clear hb
  have HO37 := HN37
  clear HN37
  obtain ⟨eap0, ebp0, -⟩ := two_cells HXp0.out
  obtain ⟨ea25, eb25, ec25, -⟩ := deal_cells HX25.out
  obtain ⟨ea26, eb26, -⟩ := two_cells HX26.out
  obtain ⟨ea30, eb30, ec30, -⟩ := deal_cells HX30.out
  go_wp2_with fail
  clear eap0 ebp0 ea25 eb25 ec25 ea26 eb26 ea30 eb30 ec30
  refine (runHandshake_any a3 HO34.out.hel HO35.out.nums HO36.out.nums HF2.out (HO37.out.items Et.enc_len) HF4.out (by omega) (by omega)).mono ?_
  rintro e w_36 ⟨v38, rfl, ho, hb⟩
  have HN38 := Lib.hid ho
  have hs36 : w_35.heap.size ≤ w_36.heap.size := hb.size
  replace HO25 := Lib.hid (HO25.out.same hb)
  replace HO26 := Lib.hid (HO26.out.same hb)
  replace HO27 := Lib.hid (HO27.out.same hb)
  replace HO28 := Lib.hid (HO28.out.same hb)
  replace HO29 := Lib.hid (HO29.out.same hb)
  replace HO30 := Lib.hid (HO30.out.same hb)
  replace HO34 := Lib.hid (HO34.out.same hb)
  replace HO35 := Lib.hid (HO35.out.same hb)
  replace HO36 := Lib.hid (HO36.out.same hb)
  replace HO37 := Lib.hid (HO37.out.same hb)
  replace HXp0 := Lib.hid (((hb).block _ (by omega)).trans HXp0.out)
  replace HX25 := Lib.hid (((hb).block _ (by omega)).trans HX25.out)
  replace HX26 := Lib.hid (((hb).block _ (by omega)).trans HX26.out)
  replace HX30 := Lib.hid (((hb).block _ (by omega)).trans HX30.out)
  replace HB := Lib.hid (HB.out.trans (hb.mono HB.out.size))
  clear ho
  clear hb
  have HO38 := HN38
  clear HN38
  obtain ⟨a38, n38, c38, rfl⟩ := HO38.out.shape
  clear HO34 HO35 HO36 HO37
  have HAL := Lib.hid (alloc_same w_36 (.cells #[.bool (runH x0 l1 l2 a3 l4).ok, .int .i64 (runH x0 l1 l2 a3 l4).ver, .slice a38 n38 c38] 32))
  have HX38 := Lib.hid (heap_alloc_new w_36 (.cells #[.bool (runH x0 l1 l2 a3 l4).ok, .int .i64 (runH x0 l1 l2 a3 l4).ver, .slice a38 n38 c38] 32 (0, 0)))
  change Hid ((World.alloc w_36 (.cells #[.bool (runH x0 l1 l2 a3 l4).ok, .int .i64 (runH x0 l1 l2 a3 l4).ver, .slice a38 n38 c38] 32)).heap[w_36.heap.size]? = _) at HX38
  replace HO25 := Lib.hid (HO25.out.same HAL.out)
  replace HO26 := Lib.hid (HO26.out.same HAL.out)
  replace HO27 := Lib.hid (HO27.out.same HAL.out)
  replace HO28 := Lib.hid (HO28.out.same HAL.out)
  replace HO29 := Lib.hid (HO29.out.same HAL.out)
  replace HO30 := Lib.hid (HO30.out.same HAL.out)
  replace HO38 := Lib.hid (HO38.out.same HAL.out)
  replace HXp0 := Lib.hid (((HAL.out).block _ (by omega)).trans HXp0.out)
  replace HX25 := Lib.hid (((HAL.out).block _ (by omega)).trans HX25.out)
  replace HX26 := Lib.hid (((HAL.out).block _ (by omega)).trans HX26.out)
  replace HX30 := Lib.hid (((HAL.out).block _ (by omega)).trans HX30.out)
  replace HB := Lib.hid (HB.out.trans (HAL.out.mono HB.out.size))
  have hs37 : w_36.heap.size < (World.alloc w_36 (.cells #[.bool (runH x0 l1 l2 a3 l4).ok, .int .i64 (runH x0 l1 l2 a3 l4).ver, .slice a38 n38 c38] 32)).heap.size := by simp
  obtain ⟨eap0, ebp0, -⟩ := two_cells HXp0.out
  obtain ⟨ea25, eb25, ec25, -⟩ := deal_cells HX25.out
  obtain ⟨ea26, eb26, -⟩ := two_cells HX26.out
  obtain ⟨ea30, eb30, ec30, -⟩ := deal_cells HX30.out
  obtain ⟨ea38, eb38, ec38, -⟩ := deal_cells HX38.out
  clear HAL
  go_wp2_with fail
  clear eap0 ebp0 ea25 eb25 ec25 ea26 eb26 ea30 eb30 ec30 ea38 eb38 ec38
  generalize hgen : World.alloc w_36 (.cells #[.bool (runH x0 l1 l2 a3 l4).ok, .int .i64 (runH x0 l1 l2 a3 l4).ver, .slice a38 n38 c38] 32) = w_37 at *
  clear hgen
  refine (eqDeal_yes HO38.out.dl HO25.out.dl).mono ?_
  rintro e w_38 ⟨rfl, hb⟩
  have hs38 : w_37.heap.size ≤ w_38.heap.size := hb.size
  replace HO25 := Lib.hid (HO25.out.same hb)
  replace HO26 := Lib.hid (HO26.out.same hb)
  replace HO27 := Lib.hid (HO27.out.same hb)
  replace HO28 := Lib.hid (HO28.out.same hb)
  replace HO29 := Lib.hid (HO29.out.same hb)
  replace HO30 := Lib.hid (HO30.out.same hb)
  replace HO38 := Lib.hid (HO38.out.same hb)
  replace HXp0 := Lib.hid (((hb).block _ (by omega)).trans HXp0.out)
  replace HX25 := Lib.hid (((hb).block _ (by omega)).trans HX25.out)
  replace HX26 := Lib.hid (((hb).block _ (by omega)).trans HX26.out)
  replace HX30 := Lib.hid (((hb).block _ (by omega)).trans HX30.out)
  replace HX38 := Lib.hid (((hb).block _ (by omega)).trans HX38.out)
  replace HB := Lib.hid (HB.out.trans (hb.mono HB.out.size))
  clear hb
  obtain ⟨eap0, ebp0, -⟩ := two_cells HXp0.out
  obtain ⟨ea25, eb25, ec25, -⟩ := deal_cells HX25.out
  obtain ⟨ea26, eb26, -⟩ := two_cells HX26.out
  obtain ⟨ea30, eb30, ec30, -⟩ := deal_cells HX30.out
  obtain ⟨ea38, eb38, ec38, -⟩ := deal_cells HX38.out
  go_wp2_with fail
  clear eap0 ebp0 ea25 eb25 ec25 ea26 eb26 ea30 eb30 ec30 ea38 eb38 ec38
  refine (heldDeal_any (k := 1) (x := (runH x0 l1 l2 a3 l4)) HO30.out.dl (by omega) (by omega)).mono ?_
  rintro e w_39 ⟨rfl, hb⟩
  have hs39 : w_38.heap.size ≤ w_39.heap.size := hb.size
  replace HO25 := Lib.hid (HO25.out.same hb)
  replace HO26 := Lib.hid (HO26.out.same hb)
  replace HO27 := Lib.hid (HO27.out.same hb)
  replace HO28 := Lib.hid (HO28.out.same hb)
  replace HO29 := Lib.hid (HO29.out.same hb)
  replace HO30 := Lib.hid (HO30.out.same hb)
  replace HO38 := Lib.hid (HO38.out.same hb)
  replace HXp0 := Lib.hid (((hb).block _ (by omega)).trans HXp0.out)
  replace HX25 := Lib.hid (((hb).block _ (by omega)).trans HX25.out)
  replace HX26 := Lib.hid (((hb).block _ (by omega)).trans HX26.out)
  replace HX30 := Lib.hid (((hb).block _ (by omega)).trans HX30.out)
  replace HX38 := Lib.hid (((hb).block _ (by omega)).trans HX38.out)
  replace HB := Lib.hid (HB.out.trans (hb.mono HB.out.size))
  clear hb
  obtain ⟨eap0, ebp0, -⟩ := two_cells HXp0.out
  obtain ⟨ea25, eb25, ec25, -⟩ := deal_cells HX25.out
  obtain ⟨ea26, eb26, -⟩ := two_cells HX26.out
  obtain ⟨ea30, eb30, ec30, -⟩ := deal_cells HX30.out
  obtain ⟨ea38, eb38, ec38, -⟩ := deal_cells HX38.out
  go_wp2_with fail
  clear eap0 ebp0 ea25 eb25 ec25 ea26 eb26 ea30 eb30 ec30 ea38 eb38 ec38
  go_ret
  exact ⟨rfl, HB.out⟩

set_option maxRecDepth 100000 in
theorem lifted (os : Os) (started : os.Started) (H : Type) (enc : TypeId × Value → H) :
    ReturnsInHanded {} Tryz.checked os 4 .any (Rows.fnExactRunHandshakeSpec.pre6 enc Tryz.prog Tryz.f4 Rows.fnExactRunHandshakeRow.domain false) (Rows.fnExactRunHandshakeSpec.post enc Tryz.prog Tryz.f4 false true false false) := by
  refine returnsInHanded_of_change (C := Tryz.checked) own started (by kernel_rfl) Tryz.func4
    (ChangeSpec.witness6 (enc := enc) (C := Tryz.checked) false ⟨#[], #[.agg #[.slice none 0 0, .slice none 0 0], .slice none 0 0, .slice none 0 0, .int .i64 0, .slice none 0 0], []⟩ 8 (by kernel_rfl) (by kernel_rfl) (by kernel_rfl) (by kernel_rfl)) ?_
  intro W base args ds gs before hval0 hW hcnd _
  have hval : ∀ (j : Nat) t v, Tryz.f4.params[j]? = some t → args[j]? = some v → Value.okWide Tryz.prog W .any base t v := hval0
  have hW' := hW
  obtain ⟨p, q, hA0, hV, rfl, hfz, hnd⟩ := hW
  have hA : DataW.TrodAll enc Tryz.prog W 0 (fun _ => true) true Tryz.f4.params.toList args.toList ds p := hA0
  rw [Tryz.params4] at hA hval
  obtain ⟨v0, vs0, d0, ds0, p0, q0, hargs, rfl, rfl, h0, r0⟩ := trodAll_cons hA
  obtain ⟨v1, vs1, d1, ds1, p1, q1, rfl, rfl, rfl, h1, r1⟩ := trodAll_cons r0
  obtain ⟨v2, vs2, d2, ds2, p2, q2, rfl, rfl, rfl, h2, r2⟩ := trodAll_cons r1
  obtain ⟨v3, vs3, d3, ds3, p3, q3, rfl, rfl, rfl, h3, r3⟩ := trodAll_cons r2
  obtain ⟨v4, vs4, d4, ds4, p4, q4, rfl, rfl, rfl, h4, r4⟩ := trodAll_cons r3
  obtain ⟨rfl, rfl, rfl⟩ := trodAll_nil r4
  obtain rfl : args = #[v0, v1, v2, v3, v4] := by cases args; simp_all
  obtain ⟨rfl, rfl⟩ := trodVars_none hV
  have h0k := h0
  have hlt0 : ∀ x ∈ p0, x.block < W.heap.size := fun x hx => by simpa using hW'.lt x (by simp [hx])
  obtain ⟨x0, K0, F0⟩ := open_hel Tryz.underlying52 (by kernel_rfl) (by kernel_rfl) Tryz.underlying24 Tryz.underlying3 int_cells Tryz.underlying50 Tryz.underlying137 (by kernel_rfl) (by kernel_rfl) Tryz.underlying3 Tryz.underlying24 (hval 0 52 v0 rfl rfl) h0
  have h1k := h1
  have hlt1 : ∀ x ∈ p1, x.block < W.heap.size := fun x hx => by simpa using hW'.lt x (by simp [hx])
  obtain ⟨a1, n1, c1, l1, rfl, K1, F1, R1⟩ := open_nums Tryz.underlying24 Tryz.underlying3 int_cells (hval 1 24 v1 rfl rfl) h1
  have h2k := h2
  have hlt2 : ∀ x ∈ p2, x.block < W.heap.size := fun x hx => by simpa using hW'.lt x (by simp [hx])
  obtain ⟨a2, n2, c2, l2, rfl, K2, F2, R2⟩ := open_nums Tryz.underlying24 Tryz.underlying3 int_cells (hval 2 24 v2 rfl rfl) h2
  obtain ⟨a3, rfl, rfl, rfl, w3⟩ := open_int Tryz.underlying3 (hval 3 3 v3 rfl rfl) h3
  have h4k := h4
  have hlt4 : ∀ x ∈ p4, x.block < W.heap.size := fun x hx => by simpa using hW'.lt x (by simp [hx])
  obtain ⟨a4, n4, c4, l4, rfl, K4, F4, R4⟩ := open_ets Tryz.underlying53 Tryz.underlying109 (by kernel_rfl) (by kernel_rfl) Tryz.underlying3 Tryz.underlying3 (hval 4 53 v4 rfl rfl) h4
  clear hA0 hval0
  simp only [List.append_nil] at hW'
  refine (walk v0 x0 a1 n1 c1 l1 a2 n2 c2 l2 a3 w3 a4 n4 c4 l4 W K0 F0 K1 F1 R1 K2 F2 R2 K4 F4 R4).mono fun e W' ⟨he, hb⟩ => ?_
  subst he
  exact ⟨_, rfl, ⟨_, _, _, [], _, [], hW', (trodAll_cons_mk (shut_bool Tryz.underlying4 _) trodAll_mk0), (trodAll_cons_mk (Below.trod laidOut (by kernel_rfl) (of_decide_eq_true (by kernel_rfl)) h0k hb hlt0) (trodAll_cons_mk (Below.trod laidOut (by kernel_rfl) (of_decide_eq_true (by kernel_rfl)) h1k hb hlt1) (trodAll_cons_mk (Below.trod laidOut (by kernel_rfl) (of_decide_eq_true (by kernel_rfl)) h2k hb hlt2) (trodAll_cons_mk (shut_int Tryz.underlying3 w3) (trodAll_cons_mk (Below.trod laidOut (by kernel_rfl) (of_decide_eq_true (by kernel_rfl)) h4k hb hlt4) trodAll_mk0))))), rfl, hb.frame _, fun h => by cases h⟩⟩

theorem over : Rows.fnExactRunHandshakeRow.holds Tryz.pinned (OpenSpec.ofChange Rows.fnExactRunHandshakeSpec) :=
  OpenClaim.holds_of_wide 4 Tryz.f4 rfl rfl rfl rfl rfl rfl rfl ⟨rfl, rfl, rfl, rfl, rfl⟩ rfl rfl rfl rfl rfl (by kernel_rfl) Tryz.func4 (by kernel_rfl)
    (of_decide_eq_true (by kernel_rfl)) (by unfold Func.isWrapper; first | (rw [if_pos (by decide +kernel)]; kernel_rfl) | (rw [if_neg (by decide +kernel)]; exact ⟨rfl, rfl⟩))
    (fun os started H enc _ => lifted os started H enc)

theorem proved : Rows.FnExactRunHandshakeSaid :=
  over
end Go.Proofs.YtcmjadfpifpknaaGreat.fnExactRunHandshake
