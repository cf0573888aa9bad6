/- For every list of entries, list of tags and vendor: the tags that clash, as in the model. -/
import Derived.Test.YtjmabidahofbbaaIntS
import Derived.Test.YtjmabidahofbbaaEntS
import Derived.Test.YtjmabidahofbbaaCl
import Derived.Test.YtjmabidahofbbaaOpenN
import Derived.Test.YtjmabidahofbbaaOpen
import Derived.WalkKit
import Derived.Deep.RegionHeld3
import Derived.ProofKit
import Derived.OpenShut
namespace Go.Proofs.Ytjmabidahofbbaa.fnExactClashOf
open Go.ChangeShapes Go.WideShapes Go.ChangeAt Go.RowKit Go.Lib
open Go.ChangeMaps (open_string shut_string)
set_option linter.unusedVariables false

theorem own : ownKnob Try.prog.godebug = none := by kernel_rfl

set_option maxHeartbeats 4000000 in
set_option maxRecDepth 100000 in
theorem walk (a0 : Option Addr) (n0 c0 : Nat) (l0 : List En) (a1 : Option Addr) (n1 c1 : Nat) (l1 : List Int) (a2 : Int) (w2 : (Lit.int .i64 a2).wf = true) (w : World) (K0 : Ens w a0 n0 l0) (F0 : ∀ x ∈ l0, x.wf) (R0 : n0 ≤ c0 ∧ (c0 : Int) ≤ 9223372036854775807) (K1 : Nums .i64 w a1 n1 l1) (F1 : ∀ x ∈ l1, (Lit.int .i64 x).wf = true) (R1 : n1 ≤ c1 ∧ (c1 : Int) ≤ 9223372036854775807) :
    Calls Try.prog 9 #[.slice a0 n0 c0, .slice a1 n1 c1, .int .i64 a2] w fun e w' => e = .returned (.bool true) ∧ Below w.heap.size w w' := by
  have hfit0 := K0.fits
  have hfit1 := K1.fits
  by_cases hbig1 : 1048576 < n1
  · go_enter Try.func9, Try.ntmps9
    go_wp2
    go_ret
    exact ⟨rfl, Below.refl _ _⟩
  by_cases hbig0 : 1048576 < n0
  · go_enter Try.func9, Try.ntmps9
    go_wp2
    go_ret
    exact ⟨rfl, Below.refl _ _⟩
  have HK0 := Lib.hid K0
  have HR0 := Lib.hid R0
  have hn0 : n0 ≤ 1048576 := by omega
  have HK1 := Lib.hid K1
  have HR1 := Lib.hid R1
  have hn1 : n1 ≤ 1048576 := by omega
  have HF0 := Lib.hid F0
  have HF1 := Lib.hid F1
  have HB := Lib.hid (Below.refl w.heap.size w)
  clear K0 F0 R0 K1 F1 R1
  go_enter Try.func9, Try.ntmps9
  go_wp2_with fail
  refine (szEntryS_any a0 n0 c0 (1048576) _ (by omega) (by omega)).mono ?_
  rintro e w' ⟨rfl, rfl⟩
  go_wp2_with fail
  refine (toEntryS_any a0 n0 c0 l0 _ (HK0.out.same HB.out) (by omega)).mono ?_
  rintro e w_1 ⟨b0, m0, d0, rfl, ho, hb⟩
  have hm0 : m0 ≤ 1000000000 := by have hl := ho.len; have := HK0.out.len; have := HK1.out.len;  omega
  have hs1 : w.heap.size ≤ w_1.heap.size := hb.size
  have HS0 := Lib.hid ho.span
  have HO0 := Lib.hid ho
  replace HB := Lib.hid (HB.out.trans (hb.mono HB.out.size))
  clear ho hb
  go_wp2_with fail
  refine (toIntS_any a1 n1 c1 l1 _ (HK1.out.same HB.out) (by omega)).mono ?_
  rintro e w_2 ⟨b1, m1, d1, rfl, ho, hb⟩
  have hm1 : m1 ≤ 1000000000 := by have hl := ho.len; have := HK0.out.len; have := HK1.out.len;  omega
  have hs2 : w_1.heap.size ≤ w_2.heap.size := hb.size
  have HS1 := Lib.hid ho.span
  have HO1 := Lib.hid ho
  replace HO0 := Lib.hid (HO0.out.same hb)
  replace HB := Lib.hid (HB.out.trans (hb.mono HB.out.size))
  clear ho hb
  go_wp2_with fail
  refine (specClashOf_any (v := a2) (HO0.out.items En.enc_len) HO1.out.nums (by omega)).mono ?_
  rintro e w_3 ⟨b2, m2, d2, rfl, ho, hb⟩
  have hm2 : m2 ≤ 1000000000 := by have hl := ho.len; have := HK0.out.len; have := HK1.out.len; have := HO0.out.len; have := HO1.out.len; have := clashOf_len l0 a2 l1; omega
  have hs3 : w_2.heap.size ≤ w_3.heap.size := hb.size
  have HS2 := Lib.hid ho.span
  have HO2 := Lib.hid ho
  replace HO0 := Lib.hid (HO0.out.same hb)
  replace HO1 := Lib.hid (HO1.out.same hb)
  replace HB := Lib.hid (HB.out.trans (hb.mono HB.out.size))
  clear ho hb
  go_wp2_with fail
  refine (toEntryS_any a0 n0 c0 l0 _ (HK0.out.same HB.out) (by omega)).mono ?_
  rintro e w_4 ⟨b3, m3, d3, rfl, ho, hb⟩
  have hm3 : m3 ≤ 1000000000 := by have hl := ho.len; have := HK0.out.len; have := HK1.out.len;  omega
  have hs4 : w_3.heap.size ≤ w_4.heap.size := hb.size
  have HS3 := Lib.hid ho.span
  have HO3 := Lib.hid ho
  replace HO0 := Lib.hid (HO0.out.same hb)
  replace HO1 := Lib.hid (HO1.out.same hb)
  replace HO2 := Lib.hid (HO2.out.same hb)
  replace HB := Lib.hid (HB.out.trans (hb.mono HB.out.size))
  clear ho hb
  go_wp2_with fail
  refine (toIntS_any a1 n1 c1 l1 _ (HK1.out.same HB.out) (by omega)).mono ?_
  rintro e w_5 ⟨b4, m4, d4, rfl, ho, hb⟩
  have hm4 : m4 ≤ 1000000000 := by have hl := ho.len; have := HK0.out.len; have := HK1.out.len;  omega
  have hs5 : w_4.heap.size ≤ w_5.heap.size := hb.size
  have HS4 := Lib.hid ho.span
  have HO4 := Lib.hid ho
  replace HO0 := Lib.hid (HO0.out.same hb)
  replace HO1 := Lib.hid (HO1.out.same hb)
  replace HO2 := Lib.hid (HO2.out.same hb)
  replace HO3 := Lib.hid (HO3.out.same hb)
  replace HB := Lib.hid (HB.out.trans (hb.mono HB.out.size))
  clear ho hb
  go_wp2_with fail
  refine (clashOf_any (v := a2) (HO3.out.items En.enc_len) HO4.out.nums (by omega) (by omega)).mono ?_
  rintro e w_6 ⟨b5, m5, d5, rfl, ho, hb⟩
  have hm5 : m5 ≤ 1000000000 := by have hl := ho.len; have := HK0.out.len; have := HK1.out.len; have := HO3.out.len; have := HO4.out.len; have := clashOf_len l0 a2 l1; omega
  have hs6 : w_5.heap.size ≤ w_6.heap.size := hb.size
  have HS5 := Lib.hid ho.span
  have HO5 := Lib.hid ho
  replace HO0 := Lib.hid (HO0.out.same hb)
  replace HO1 := Lib.hid (HO1.out.same hb)
  replace HO2 := Lib.hid (HO2.out.same hb)
  replace HO3 := Lib.hid (HO3.out.same hb)
  replace HO4 := Lib.hid (HO4.out.same hb)
  replace HB := Lib.hid (HB.out.trans (hb.mono HB.out.size))
  clear ho hb
  go_wp2_with fail
  refine (eqIntS_yes b5 b2 m5 m2 d5 d2 (clashOf l0 a2 l1) _ HO5.out.nums HO2.out.nums).mono ?_
  rintro e w_7 ⟨rfl, hb⟩
  have hs7 : w_6.heap.size ≤ w_7.heap.size := hb.size
  replace HO0 := Lib.hid (HO0.out.same hb)
  replace HO1 := Lib.hid (HO1.out.same hb)
  replace HO2 := Lib.hid (HO2.out.same hb)
  replace HO3 := Lib.hid (HO3.out.same hb)
  replace HO4 := Lib.hid (HO4.out.same hb)
  replace HO5 := Lib.hid (HO5.out.same hb)
  replace HB := Lib.hid (HB.out.trans (hb.mono HB.out.size))
  clear hb
  go_wp2_with fail
  refine (toEntryS_any a0 n0 c0 l0 _ (HK0.out.same HB.out) (by omega)).mono ?_
  rintro e w_8 ⟨b6, m6, d6, rfl, ho, hb⟩
  have hm6 : m6 ≤ 1000000000 := by have hl := ho.len; have := HK0.out.len; have := HK1.out.len;  omega
  have hs8 : w_7.heap.size ≤ w_8.heap.size := hb.size
  have HS6 := Lib.hid ho.span
  have HO6 := Lib.hid ho
  replace HO0 := Lib.hid (HO0.out.same hb)
  replace HO1 := Lib.hid (HO1.out.same hb)
  replace HO2 := Lib.hid (HO2.out.same hb)
  replace HO3 := Lib.hid (HO3.out.same hb)
  replace HO4 := Lib.hid (HO4.out.same hb)
  replace HO5 := Lib.hid (HO5.out.same hb)
  replace HB := Lib.hid (HB.out.trans (hb.mono HB.out.size))
  clear ho hb
  go_wp2_with fail
  refine (eqEntryS_yes b3 b6 m3 m6 d3 d6 l0 _ (HO3.out.items En.enc_len) (HO6.out.items En.enc_len)).mono ?_
  rintro e w_9 ⟨rfl, hb⟩
  have hs9 : w_8.heap.size ≤ w_9.heap.size := hb.size
  replace HO0 := Lib.hid (HO0.out.same hb)
  replace HO1 := Lib.hid (HO1.out.same hb)
  replace HO2 := Lib.hid (HO2.out.same hb)
  replace HO3 := Lib.hid (HO3.out.same hb)
  replace HO4 := Lib.hid (HO4.out.same hb)
  replace HO5 := Lib.hid (HO5.out.same hb)
  replace HO6 := Lib.hid (HO6.out.same hb)
  replace HB := Lib.hid (HB.out.trans (hb.mono HB.out.size))
  clear hb
  go_wp2_with fail
  refine (toIntS_any a1 n1 c1 l1 _ (HK1.out.same HB.out) (by omega)).mono ?_
  rintro e w_10 ⟨b7, m7, d7, rfl, ho, hb⟩
  have hm7 : m7 ≤ 1000000000 := by have hl := ho.len; have := HK0.out.len; have := HK1.out.len;  omega
  have hs10 : w_9.heap.size ≤ w_10.heap.size := hb.size
  have HS7 := Lib.hid ho.span
  have HO7 := Lib.hid ho
  replace HO0 := Lib.hid (HO0.out.same hb)
  replace HO1 := Lib.hid (HO1.out.same hb)
  replace HO2 := Lib.hid (HO2.out.same hb)
  replace HO3 := Lib.hid (HO3.out.same hb)
  replace HO4 := Lib.hid (HO4.out.same hb)
  replace HO5 := Lib.hid (HO5.out.same hb)
  replace HO6 := Lib.hid (HO6.out.same hb)
  replace HB := Lib.hid (HB.out.trans (hb.mono HB.out.size))
  clear ho hb
  go_wp2_with fail
  refine (eqIntS_yes b4 b7 m4 m7 d4 d7 l1 _ HO4.out.nums HO7.out.nums).mono ?_
  rintro e w_11 ⟨rfl, hb⟩
  have hs11 : w_10.heap.size ≤ w_11.heap.size := hb.size
  replace HO0 := Lib.hid (HO0.out.same hb)
  replace HO1 := Lib.hid (HO1.out.same hb)
  replace HO2 := Lib.hid (HO2.out.same hb)
  replace HO3 := Lib.hid (HO3.out.same hb)
  replace HO4 := Lib.hid (HO4.out.same hb)
  replace HO5 := Lib.hid (HO5.out.same hb)
  replace HO6 := Lib.hid (HO6.out.same hb)
  replace HO7 := Lib.hid (HO7.out.same hb)
  replace HB := Lib.hid (HB.out.trans (hb.mono HB.out.size))
  clear hb
  go_wp2_with fail
  refine (markEntryS_any _ b3 m3 d3 (1) l0 _ HO3.out (by omega) (by omega)).mono ?_
  rintro e w_12 ⟨rfl, ho, hg⟩
  have hs12 : w_11.heap.size ≤ w_12.heap.size := hg.size
  replace HO0 := Lib.hid (HO0.out.apart hg HS0.out HS3.out (by omega))
  replace HO1 := Lib.hid (HO1.out.apart hg HS1.out HS3.out (by omega))
  replace HO2 := Lib.hid (HO2.out.apart hg HS2.out HS3.out (by omega))
  replace HO4 := Lib.hid (HO4.out.apart hg HS4.out HS3.out (by omega))
  replace HO5 := Lib.hid (HO5.out.apart hg HS5.out HS3.out (by omega))
  replace HO6 := Lib.hid (HO6.out.apart hg HS6.out HS3.out (by omega))
  replace HO7 := Lib.hid (HO7.out.apart hg HS7.out HS3.out (by omega))
  replace HO3 := Lib.hid ho
  replace HB := Lib.hid (grown_to hg HB.out HS3.out (by omega) HB.out.size)
  clear ho hg
  go_wp2_with fail
  refine (markIntS_any _ b4 m4 d4 (1 + m3 * 3) l1 _ HO4.out (by omega) (by omega)).mono ?_
  rintro e w_13 ⟨rfl, ho, hg⟩
  have hs13 : w_12.heap.size ≤ w_13.heap.size := hg.size
  replace HO0 := Lib.hid (HO0.out.apart hg HS0.out HS4.out (by omega))
  replace HO1 := Lib.hid (HO1.out.apart hg HS1.out HS4.out (by omega))
  replace HO2 := Lib.hid (HO2.out.apart hg HS2.out HS4.out (by omega))
  replace HO3 := Lib.hid (HO3.out.apart hg HS3.out HS4.out (by omega))
  replace HO5 := Lib.hid (HO5.out.apart hg HS5.out HS4.out (by omega))
  replace HO6 := Lib.hid (HO6.out.apart hg HS6.out HS4.out (by omega))
  replace HO7 := Lib.hid (HO7.out.apart hg HS7.out HS4.out (by omega))
  replace HO4 := Lib.hid ho
  replace HB := Lib.hid (grown_to hg HB.out HS4.out (by omega) HB.out.size)
  clear ho hg
  go_wp2_with fail
  refine (eqIntS_yes b5 b2 m5 m2 d5 d2 (clashOf l0 a2 l1) _ HO5.out.nums HO2.out.nums).mono ?_
  rintro e w_14 ⟨rfl, hb⟩
  have hs14 : w_13.heap.size ≤ w_14.heap.size := hb.size
  replace HO0 := Lib.hid (HO0.out.same hb)
  replace HO1 := Lib.hid (HO1.out.same hb)
  replace HO2 := Lib.hid (HO2.out.same hb)
  replace HO3 := Lib.hid (HO3.out.same hb)
  replace HO4 := Lib.hid (HO4.out.same hb)
  replace HO5 := Lib.hid (HO5.out.same hb)
  replace HO6 := Lib.hid (HO6.out.same hb)
  replace HO7 := Lib.hid (HO7.out.same hb)
  replace HB := Lib.hid (HB.out.trans (hb.mono HB.out.size))
  clear hb
  go_wp2_with fail
  refine (markIntS_any _ b5 m5 d5 (1) (clashOf l0 a2 l1) _ HO5.out (by omega) (by omega)).mono ?_
  rintro e w_15 ⟨rfl, ho, hg⟩
  have hs15 : w_14.heap.size ≤ w_15.heap.size := hg.size
  replace HO0 := Lib.hid (HO0.out.apart hg HS0.out HS5.out (by omega))
  replace HO1 := Lib.hid (HO1.out.apart hg HS1.out HS5.out (by omega))
  replace HO2 := Lib.hid (HO2.out.apart hg HS2.out HS5.out (by omega))
  replace HO3 := Lib.hid (HO3.out.apart hg HS3.out HS5.out (by omega))
  replace HO4 := Lib.hid (HO4.out.apart hg HS4.out HS5.out (by omega))
  replace HO6 := Lib.hid (HO6.out.apart hg HS6.out HS5.out (by omega))
  replace HO7 := Lib.hid (HO7.out.apart hg HS7.out HS5.out (by omega))
  replace HO5 := Lib.hid ho
  replace HB := Lib.hid (grown_to hg HB.out HS5.out (by omega) HB.out.size)
  clear ho hg
  go_wp2_with fail
  refine (heldIntS_any b5 m5 d5 (1) _ HO5.out.nums (by omega) (by omega)).mono ?_
  rintro e w_16 ⟨rfl, hb⟩
  have hs16 : w_15.heap.size ≤ w_16.heap.size := hb.size
  replace HO0 := Lib.hid (HO0.out.same hb)
  replace HO1 := Lib.hid (HO1.out.same hb)
  replace HO2 := Lib.hid (HO2.out.same hb)
  replace HO3 := Lib.hid (HO3.out.same hb)
  replace HO4 := Lib.hid (HO4.out.same hb)
  replace HO5 := Lib.hid (HO5.out.same hb)
  replace HO6 := Lib.hid (HO6.out.same hb)
  replace HO7 := Lib.hid (HO7.out.same hb)
  replace HB := Lib.hid (HB.out.trans (hb.mono HB.out.size))
  clear hb
  go_wp2_with fail
  refine (toEntryS_any a0 n0 c0 l0 _ (HK0.out.same HB.out) (by omega)).mono ?_
  rintro e w_17 ⟨b8, m8, d8, rfl, ho, hb⟩
  have hm8 : m8 ≤ 1000000000 := by have hl := ho.len; have := HK0.out.len; have := HK1.out.len;  omega
  have hs17 : w_16.heap.size ≤ w_17.heap.size := hb.size
  have HS8 := Lib.hid ho.span
  have HO8 := Lib.hid ho
  replace HO0 := Lib.hid (HO0.out.same hb)
  replace HO1 := Lib.hid (HO1.out.same hb)
  replace HO2 := Lib.hid (HO2.out.same hb)
  replace HO3 := Lib.hid (HO3.out.same hb)
  replace HO4 := Lib.hid (HO4.out.same hb)
  replace HO5 := Lib.hid (HO5.out.same hb)
  replace HO6 := Lib.hid (HO6.out.same hb)
  replace HO7 := Lib.hid (HO7.out.same hb)
  replace HB := Lib.hid (HB.out.trans (hb.mono HB.out.size))
  clear ho hb
  go_wp2_with fail
  refine (toIntS_any a1 n1 c1 l1 _ (HK1.out.same HB.out) (by omega)).mono ?_
  rintro e w_18 ⟨b9, m9, d9, rfl, ho, hb⟩
  have hm9 : m9 ≤ 1000000000 := by have hl := ho.len; have := HK0.out.len; have := HK1.out.len;  omega
  have hs18 : w_17.heap.size ≤ w_18.heap.size := hb.size
  have HS9 := Lib.hid ho.span
  have HO9 := Lib.hid ho
  replace HO0 := Lib.hid (HO0.out.same hb)
  replace HO1 := Lib.hid (HO1.out.same hb)
  replace HO2 := Lib.hid (HO2.out.same hb)
  replace HO3 := Lib.hid (HO3.out.same hb)
  replace HO4 := Lib.hid (HO4.out.same hb)
  replace HO5 := Lib.hid (HO5.out.same hb)
  replace HO6 := Lib.hid (HO6.out.same hb)
  replace HO7 := Lib.hid (HO7.out.same hb)
  replace HO8 := Lib.hid (HO8.out.same hb)
  replace HB := Lib.hid (HB.out.trans (hb.mono HB.out.size))
  clear ho hb
  go_wp2_with fail
  refine (clashOf_any (v := a2) (HO8.out.items En.enc_len) HO9.out.nums (by omega) (by omega)).mono ?_
  rintro e w_19 ⟨b10, m10, d10, rfl, ho, hb⟩
  have hm10 : m10 ≤ 1000000000 := by have hl := ho.len; have := HK0.out.len; have := HK1.out.len; have := HO8.out.len; have := HO9.out.len; have := clashOf_len l0 a2 l1; omega
  have hs19 : w_18.heap.size ≤ w_19.heap.size := hb.size
  have HS10 := Lib.hid ho.span
  have HO10 := Lib.hid ho
  replace HO0 := Lib.hid (HO0.out.same hb)
  replace HO1 := Lib.hid (HO1.out.same hb)
  replace HO2 := Lib.hid (HO2.out.same hb)
  replace HO3 := Lib.hid (HO3.out.same hb)
  replace HO4 := Lib.hid (HO4.out.same hb)
  replace HO5 := Lib.hid (HO5.out.same hb)
  replace HO6 := Lib.hid (HO6.out.same hb)
  replace HO7 := Lib.hid (HO7.out.same hb)
  replace HO8 := Lib.hid (HO8.out.same hb)
  replace HO9 := Lib.hid (HO9.out.same hb)
  replace HB := Lib.hid (HB.out.trans (hb.mono HB.out.size))
  clear ho hb
  go_wp2_with fail
  refine (eqIntS_yes b10 b2 m10 m2 d10 d2 (clashOf l0 a2 l1) _ HO10.out.nums HO2.out.nums).mono ?_
  rintro e w_20 ⟨rfl, hb⟩
  have hs20 : w_19.heap.size ≤ w_20.heap.size := hb.size
  replace HO0 := Lib.hid (HO0.out.same hb)
  replace HO1 := Lib.hid (HO1.out.same hb)
  replace HO2 := Lib.hid (HO2.out.same hb)
  replace HO3 := Lib.hid (HO3.out.same hb)
  replace HO4 := Lib.hid (HO4.out.same hb)
  replace HO5 := Lib.hid (HO5.out.same hb)
  replace HO6 := Lib.hid (HO6.out.same hb)
  replace HO7 := Lib.hid (HO7.out.same hb)
  replace HO8 := Lib.hid (HO8.out.same hb)
  replace HO9 := Lib.hid (HO9.out.same hb)
  replace HO10 := Lib.hid (HO10.out.same hb)
  replace HB := Lib.hid (HB.out.trans (hb.mono HB.out.size))
  clear hb
  go_wp2_with fail
  refine (heldIntS_any b5 m5 d5 (1) _ HO5.out.nums (by omega) (by omega)).mono ?_
  rintro e w_21 ⟨rfl, hb⟩
  have hs21 : w_20.heap.size ≤ w_21.heap.size := hb.size
  replace HO0 := Lib.hid (HO0.out.same hb)
  replace HO1 := Lib.hid (HO1.out.same hb)
  replace HO2 := Lib.hid (HO2.out.same hb)
  replace HO3 := Lib.hid (HO3.out.same hb)
  replace HO4 := Lib.hid (HO4.out.same hb)
  replace HO5 := Lib.hid (HO5.out.same hb)
  replace HO6 := Lib.hid (HO6.out.same hb)
  replace HO7 := Lib.hid (HO7.out.same hb)
  replace HO8 := Lib.hid (HO8.out.same hb)
  replace HO9 := Lib.hid (HO9.out.same hb)
  replace HO10 := Lib.hid (HO10.out.same hb)
  replace HB := Lib.hid (HB.out.trans (hb.mono HB.out.size))
  clear hb
  go_wp2_with fail
  go_ret
  exact ⟨rfl, HB.out⟩

set_option maxRecDepth 100000 in
theorem lifted (os : Os) (started : os.Started) (H : Type) (enc : TypeId × Value → H) :
    ReturnsInHanded {} Try.checked os 9 .any (Rows.fnExactClashOfSpec.pre6 enc Try.prog Try.f9 Rows.fnExactClashOfRow.domain false) (Rows.fnExactClashOfSpec.post enc Try.prog Try.f9 false true false false) := by
  refine returnsInHanded_of_change (C := Try.checked) own started (by kernel_rfl) Try.func9
    (ChangeSpec.witness6 (enc := enc) (C := Try.checked) false ⟨#[], #[.slice none 0 0, .slice none 0 0, .int .i64 0], []⟩ 8 (by kernel_rfl) (by kernel_rfl) (by kernel_rfl) (by kernel_rfl)) ?_
  intro W base args ds gs before hval0 hW hcnd _
  have hval : ∀ (j : Nat) t v, Try.f9.params[j]? = some t → args[j]? = some v → Value.okWide Try.prog W .any base t v := hval0
  have hW' := hW
  obtain ⟨p, q, hA0, hV, rfl, hfz, hnd⟩ := hW
  have hA : DataW.TrodAll enc Try.prog W 0 (fun _ => true) true Try.f9.params.toList args.toList ds p := hA0
  rw [Try.params9] at hA hval
  obtain ⟨v0, vs0, d0, ds0, p0, q0, hargs, rfl, rfl, h0, r0⟩ := trodAll_cons hA
  obtain ⟨v1, vs1, d1, ds1, p1, q1, rfl, rfl, rfl, h1, r1⟩ := trodAll_cons r0
  obtain ⟨v2, vs2, d2, ds2, p2, q2, rfl, rfl, rfl, h2, r2⟩ := trodAll_cons r1
  obtain ⟨rfl, rfl, rfl⟩ := trodAll_nil r2
  obtain rfl : args = #[v0, v1, v2] := by cases args; simp_all
  obtain ⟨rfl, rfl⟩ := trodVars_none hV
  have h0k := h0
  have hlt0 : ∀ x ∈ p0, x.block < W.heap.size := fun x hx => by simpa using hW'.lt x (by simp [hx])
  obtain ⟨a0, n0, c0, l0, rfl, K0, F0, R0⟩ := open_ens Try.underlying58 Try.underlying100 (by kernel_rfl) (by kernel_rfl) Try.underlying3 Try.underlying3 Try.underlying4 (hval 0 58 v0 rfl rfl) h0
  have h1k := h1
  have hlt1 : ∀ x ∈ p1, x.block < W.heap.size := fun x hx => by simpa using hW'.lt x (by simp [hx])
  obtain ⟨a1, n1, c1, l1, rfl, K1, F1, R1⟩ := open_nums Try.underlying29 Try.underlying3 int_cells (hval 1 29 v1 rfl rfl) h1
  obtain ⟨a2, rfl, rfl, rfl, w2⟩ := open_int Try.underlying3 (hval 2 3 v2 rfl rfl) h2
  clear hA0 hval0
  simp only [List.append_nil] at hW'
  refine (walk a0 n0 c0 l0 a1 n1 c1 l1 a2 w2 W K0 F0 R0 K1 F1 R1).mono fun e W' ⟨he, hb⟩ => ?_
  subst he
  exact ⟨_, rfl, ⟨_, _, _, [], _, [], hW', (trodAll_cons_mk (shut_bool Try.underlying4 _) trodAll_mk0), (trodAll_cons_mk (Below.trod laidOut (by kernel_rfl) (of_decide_eq_true (by kernel_rfl)) h0k hb hlt0) (trodAll_cons_mk (Below.trod laidOut (by kernel_rfl) (of_decide_eq_true (by kernel_rfl)) h1k hb hlt1) (trodAll_cons_mk (shut_int Try.underlying3 w2) trodAll_mk0))), rfl, hb.frame _, fun h => by cases h⟩⟩

theorem over : Rows.fnExactClashOfRow.holds Try.pinned (OpenSpec.ofChange Rows.fnExactClashOfSpec) :=
  OpenClaim.holds_of_wide 9 Try.f9 rfl rfl rfl rfl rfl rfl rfl ⟨rfl, rfl, rfl, rfl, rfl⟩ rfl rfl rfl rfl rfl (by kernel_rfl) Try.func9 (by kernel_rfl)
    (of_decide_eq_true (by kernel_rfl)) (by unfold Func.isWrapper; first | (rw [if_pos (by decide +kernel)]; kernel_rfl) | (rw [if_neg (by decide +kernel)]; exact ⟨rfl, rfl⟩))
    (fun os started H enc _ => lifted os started H enc)

theorem proved : Rows.FnExactClashOfSaid :=
  over
end Go.Proofs.Ytjmabidahofbbaa.fnExactClashOf
